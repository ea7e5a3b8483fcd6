package idl

import (
	"slices"

	"jurist/api"
	"jurist/digits"
)

// change is a variable whose value is to be lowered, and by how much: by is below 0.
type change struct {
	x  int
	by api.Int
}

// queue has changes, each ahead of those at twice its place and one or two more; the one that lowers most comes first.
type queue []change

func (q queue) ahead(i, j int) bool { return digits.Less(q[i].by, q[j].by) }

func (q *queue) push(c change) {
	*q = append(*q, c)
	l := *q
	for i := len(l) - 1; i > 0 && l.ahead(i, (i-1)/2); i = (i - 1) / 2 {
		l[i], l[(i-1)/2] = l[(i-1)/2], l[i]
	}
}

func (q *queue) pop() change {
	l := *q
	first, last := l[0], len(l)-1
	l[0] = l[last]
	l = l[:last]
	for i := 0; ; {
		best := i
		for child := 2*i + 1; child <= 2*i+2 && child < last; child++ {
			if l.ahead(child, best) {
				best = child
			}
		}
		if best == i {
			break
		}
		l[i], l[best] = l[best], l[i]
		i = best
	}
	*q = l
	return first
}

// fall is what is known of a variable while values are lowered.
type fall struct {
	by    api.Int // by how much it is to be lowered
	why   arc     // the arc that lowers it most
	final bool
}

// lower lowers values until an arc that is new is satisfied, too. If that can't be, it changes nothing and returns a certificate, which begins with the new literal.
func (n *Net) lower(first arc) []api.Lit {
	if !exceeds(n.values, first) {
		return nil
	}
	if first.X == first.Y {
		return []api.Lit{first.lit}
	}
	tentative, falls := slices.Clone(n.values), n.falls
	var touched []int
	defer func() {
		for _, x := range touched {
			falls[x] = fall{}
		}
	}()
	var old []change
	var waiting queue
	consider := func(a arc) {
		f := &falls[a.X]
		if f.final {
			return
		}
		needed := digits.Minus(digits.Plus(tentative[a.Y], digits.Of(a.C)), tentative[a.X])
		if digits.Less(needed, f.by) {
			f.by, f.why = needed, a
			touched = append(touched, a.X)
			waiting.push(change{a.X, needed})
		}
	}
	consider(first)
	for len(waiting) > 0 {
		c := waiting.pop()
		f := &falls[c.x]
		if f.final || f.by != c.by {
			continue // it was lowered further meanwhile
		}
		if c.x == first.Y {
			return cycle(first, falls)
		}
		old = append(old, change{c.x, tentative[c.x]})
		tentative[c.x] = digits.Plus(tentative[c.x], c.by)
		f.final = true
		for _, a := range n.arcs[c.x] {
			consider(a)
		}
	}
	n.values = tentative
	n.undo = append(n.undo, func() {
		for _, c := range old {
			n.values[c.x] = c.by
		}
	})
	return nil
}

// exceeds tells whether an arc's first variable is too great for it.
func exceeds(values []api.Int, a arc) bool {
	return digits.Less(digits.Plus(values[a.Y], digits.Of(a.C)), values[a.X])
}

// cycle is the literals from an arc back to it, each by the arc that lowered its variable.
func cycle(first arc, falls []fall) []api.Lit {
	certificate := []api.Lit{first.lit}
	for x := first.Y; x != first.X; x = falls[x].why.Y {
		certificate = append(certificate, falls[x].why.lit)
	}
	return certificate
}
