package idl

import (
	"container/heap"
	"slices"

	"jurist/api"
	"jurist/digits"
)

// change is a variable whose value is to be lowered, and by how much: by is below 0.
type change struct {
	x  int
	by api.Int
}

// queue has changes, the greatest ones first.
type queue []change

func (q queue) Len() int { return len(q) }

func (q queue) Less(i, j int) bool {
	if q[i].by == q[j].by {
		return q[i].x < q[j].x
	}
	return digits.Less(q[i].by, q[j].by)
}

func (q queue) Swap(i, j int) { q[i], q[j] = q[j], q[i] }

func (q *queue) Push(x any) {
	if c, ok := x.(change); ok {
		*q = append(*q, c)
	}
}

func (q *queue) Pop() any {
	last := (*q)[len(*q)-1]
	*q = (*q)[:len(*q)-1]
	return last
}

// lower lowers values until an arc that is new is satisfied, too. If that can't be, it changes nothing and returns a certificate, which begins with the new literal.
func (n *Net) lower(first arc) []api.Lit {
	if !exceeds(n.values, first) {
		return nil
	}
	if first.X == first.Y {
		return []api.Lit{first.lit}
	}
	tentative := slices.Clone(n.values)
	var old []change
	var waiting queue
	final := map[int]arc{} // of each variable that is lowered, the arc that lowers it last
	by := map[int]api.Int{}
	consider := func(a arc) {
		if _, done := final[a.X]; done && by[a.X] == (api.Int{}) {
			return
		}
		needed := digits.Minus(digits.Plus(tentative[a.Y], digits.Of(a.C)), tentative[a.X])
		if digits.Less(needed, by[a.X]) {
			by[a.X], final[a.X] = needed, a
			heap.Push(&waiting, change{a.X, needed})
		}
	}
	consider(first)
	for len(waiting) > 0 {
		c, _ := heap.Pop(&waiting).(change)
		if by[c.x] != c.by {
			continue // it was lowered further meanwhile, or is final
		}
		if c.x == first.Y {
			return cycle(first, final)
		}
		old = append(old, change{c.x, tentative[c.x]})
		tentative[c.x] = digits.Plus(tentative[c.x], c.by)
		by[c.x] = api.Int{}
		for _, a := range n.arcs[c.x] {
			consider(a)
		}
	}
	n.values = tentative
	n.undo = append(n.undo, func() {
		for _, c := range old {
			n.values[c.x] = c.by
		}
	})
	return nil
}

// exceeds tells whether an arc's first variable is too great for it.
func exceeds(values []api.Int, a arc) bool {
	return digits.Less(digits.Plus(values[a.Y], digits.Of(a.C)), values[a.X])
}

// cycle is the literals from an arc back to it, each by the arc that lowered its variable.
func cycle(first arc, lowered map[int]arc) []api.Lit {
	certificate := []api.Lit{first.lit}
	for x := first.Y; x != first.X; x = lowered[x].Y {
		certificate = append(certificate, lowered[x].lit)
	}
	return certificate
}
