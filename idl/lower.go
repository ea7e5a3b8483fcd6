package idl

import (
	"container/heap"
	"slices"

	"jurist/api"
	"jurist/digits"
)

// change is a variable whose value is to be lowered, and by how much: by is below 0.
type change struct {
	x  int
	by api.Int
}

// queue has changes, the greatest ones first.
type queue []change

func (q queue) Len() int { return len(q) }

func (q queue) Less(i, j int) bool {
	if q[i].by == q[j].by {
		return q[i].x < q[j].x
	}
	return digits.Less(q[i].by, q[j].by)
}

func (q queue) Swap(i, j int) { q[i], q[j] = q[j], q[i] }

func (q *queue) Push(x any) {
	if c, ok := x.(change); ok {
		*q = append(*q, c)
	}
}

func (q *queue) Pop() any {
	last := (*q)[len(*q)-1]
	*q = (*q)[:len(*q)-1]
	return last
}

// fall is what is known of a variable while values are lowered.
type fall struct {
	by    api.Int // by how much it is to be lowered
	why   arc     // the arc that lowers it most
	final bool
}

// lower lowers values until an arc that is new is satisfied, too. If that can't be, it changes nothing and returns a certificate, which begins with the new literal.
func (n *Net) lower(first arc) []api.Lit {
	if !exceeds(n.values, first) {
		return nil
	}
	if first.X == first.Y {
		return []api.Lit{first.lit}
	}
	tentative, falls := slices.Clone(n.values), n.falls
	var touched []int
	defer func() {
		for _, x := range touched {
			falls[x] = fall{}
		}
	}()
	var old []change
	var waiting queue
	consider := func(a arc) {
		f := &falls[a.X]
		if f.final {
			return
		}
		needed := digits.Minus(digits.Plus(tentative[a.Y], digits.Of(a.C)), tentative[a.X])
		if digits.Less(needed, f.by) {
			f.by, f.why = needed, a
			touched = append(touched, a.X)
			heap.Push(&waiting, change{a.X, needed})
		}
	}
	consider(first)
	for len(waiting) > 0 {
		c, _ := heap.Pop(&waiting).(change)
		f := &falls[c.x]
		if f.final || f.by != c.by {
			continue // it was lowered further meanwhile
		}
		if c.x == first.Y {
			return cycle(first, falls)
		}
		old = append(old, change{c.x, tentative[c.x]})
		tentative[c.x] = digits.Plus(tentative[c.x], c.by)
		f.final = true
		for _, a := range n.arcs[c.x] {
			consider(a)
		}
	}
	n.values = tentative
	n.undo = append(n.undo, func() {
		for _, c := range old {
			n.values[c.x] = c.by
		}
	})
	return nil
}

// exceeds tells whether an arc's first variable is too great for it.
func exceeds(values []api.Int, a arc) bool {
	return digits.Less(digits.Plus(values[a.Y], digits.Of(a.C)), values[a.X])
}

// cycle is the literals from an arc back to it, each by the arc that lowered its variable.
func cycle(first arc, falls []fall) []api.Lit {
	certificate := []api.Lit{first.lit}
	for x := first.Y; x != first.X; x = falls[x].why.Y {
		certificate = append(certificate, falls[x].why.lit)
	}
	return certificate
}
