package rup

import (
	"slices"

	"jurist/api"
	"jurist/clauses"
)

// Base has clauses that grow in number, so that each of many clauses is tested without a new start.
type Base struct {
	clauses [][]api.Lit // of two literals or more; the first two are watched
	watched map[api.Lit][]int
	truth   []int8    // of each atom: 1 true, -1 false, 0 not derived
	trail   []api.Lit // what was derived, in order
	next    int       // the first one whose clauses were not looked at
	broken  bool      // the clauses alone end in a conflict
}

// NewBase makes a base without clauses.
func NewBase() *Base { return &Base{watched: map[api.Lit][]int{}} }

// Add adds a clause.
func (b *Base) Add(c []api.Lit) api.Errno {
	c, e := clauses.Normal(c)
	if e != api.OK {
		return e
	}
	if !clauses.SaysNothing(c) {
		b.settle(c)
	}
	return api.OK
}

// Follows tells whether a clause follows by unit propagation.
func (b *Base) Follows(c []api.Lit) (bool, api.Errno) {
	if !clauses.May(c) {
		return false, api.ErrArg
	}
	if b.broken || clauses.SaysNothing(c) {
		return true, api.OK
	}
	given, mark := slices.Clone(c), len(b.trail)
	conflict := false
	for _, l := range given {
		conflict = conflict || !b.derive(-l)
	}
	conflict = conflict || !b.propagate()
	b.undo(mark)
	return conflict, api.OK
}

// settle takes up a clause for good. What is derived now stays, so that false literals are left out, and a clause that is true already.
func (b *Base) settle(c []api.Lit) {
	var open []api.Lit
	for _, l := range c {
		switch b.value(l) {
		case 1:
			return
		case 0:
			open = append(open, l)
		}
	}
	switch len(open) {
	case 0:
		b.broken = true
	case 1:
		if !b.derive(open[0]) || !b.propagate() {
			b.broken = true
		}
	default:
		index := len(b.clauses)
		b.clauses = append(b.clauses, open)
		b.watch(open[0], index)
		b.watch(open[1], index)
	}
}

func (b *Base) watch(l api.Lit, index int) { b.watched[l] = append(b.watched[l], index) }

// value is 1 for a literal that is derived, -1 for one whose negation is, and else 0.
func (b *Base) value(l api.Lit) int8 {
	atom := max(l, -l)
	if int(atom) >= len(b.truth) {
		return 0
	}
	if l < 0 {
		return -b.truth[atom]
	}
	return b.truth[atom]
}

// derive makes a literal true; it is false if it is false already.
func (b *Base) derive(l api.Lit) bool {
	if v := b.value(l); v != 0 {
		return v > 0
	}
	atom := max(l, -l)
	if int(atom) >= len(b.truth) {
		b.truth = append(b.truth, make([]int8, int(atom)+1)...)
	}
	b.truth[atom] = 1
	if l < 0 {
		b.truth[atom] = -1
	}
	b.trail = append(b.trail, l)
	return true
}

func (b *Base) undo(mark int) {
	for _, l := range b.trail[mark:] {
		b.truth[max(l, -l)] = 0
	}
	b.trail, b.next = b.trail[:mark], mark
}

// propagate derives all that follows; it is false if it ends in a conflict.
func (b *Base) propagate() bool {
	for ; b.next < len(b.trail); b.next++ {
		if !b.visit(-b.trail[b.next]) {
			return false
		}
	}
	return true
}

// visit looks at the clauses that watch a literal that is false now.
func (b *Base) visit(gone api.Lit) bool {
	list := b.watched[gone]
	kept := list[:0]
	ok := true
clauses:
	for i, index := range list {
		c := b.clauses[index]
		if c[0] == gone {
			c[0], c[1] = c[1], c[0]
		}
		if b.value(c[0]) > 0 {
			kept = append(kept, index)
			continue
		}
		for k := 2; k < len(c); k++ {
			if b.value(c[k]) >= 0 {
				c[1], c[k] = c[k], c[1]
				b.watch(c[1], index)
				continue clauses
			}
		}
		kept = append(kept, index)
		if !b.derive(c[0]) {
			kept = append(kept, list[i+1:]...)
			ok = false
			break clauses
		}
	}
	b.watched[gone] = kept
	return ok
}
