package combine

import (
	"container/heap"

	"jurist/api"
	"jurist/cycles"
	"jurist/digits"
)

// bound is by how much a variable's new value exceeds its old one at most.
type bound struct {
	x    int
	over api.Int
}

// bounds has the least bound first.
type bounds []bound

func (b bounds) Len() int           { return len(b) }
func (b bounds) Less(i, j int) bool { return digits.Less(b[i].over, b[j].over) }
func (b bounds) Swap(i, j int)      { b[i], b[j] = b[j], b[i] }

func (b *bounds) Push(x any) {
	if y, ok := x.(bound); ok {
		*b = append(*b, y)
	}
}

func (b *bounds) Pop() any {
	last := (*b)[len(*b)-1]
	*b = (*b)[:len(*b)-1]
	return last
}

// edges are the asserted differences, by the variable Y that bounds another one.
func (t *Theory) edges() map[int][]api.Edge {
	edges := map[int][]api.Edge{}
	for _, l := range t.asserted {
		if edge, e := cycles.Of(t.atoms, l); e == api.OK {
			edges[edge.Y] = append(edges[edge.Y], edge)
		}
	}
	return edges
}

// spread is integers that satisfy the asserted differences, too, each as great as may be below a bound of its own: the bounds are so far from each other as a gap says. Fewer of them are equal by chance.
func (t *Theory) spread(old []api.Int, gap int64) []api.Int {
	edges := t.edges()
	over := make([]api.Int, len(old))
	final := make([]bool, len(old))
	var waiting bounds
	for x := range old {
		over[x] = digits.Minus(digits.Of(-gap*int64(x)), old[x])
		waiting = append(waiting, bound{x, over[x]})
	}
	heap.Init(&waiting)
	// No edge makes a bound less than the one that it comes from, as the old integers satisfy all edges.
	for len(waiting) > 0 {
		b, _ := heap.Pop(&waiting).(bound)
		if final[b.x] {
			continue
		}
		final[b.x] = true
		value := digits.Plus(old[b.x], b.over)
		for _, edge := range edges[b.x] {
			most := digits.Minus(digits.Plus(value, digits.Of(edge.C)), old[edge.X])
			if digits.Less(most, over[edge.X]) {
				over[edge.X] = most
				heap.Push(&waiting, bound{edge.X, most})
			}
		}
	}
	values := make([]api.Int, len(old))
	zero := digits.Plus(old[0], over[0])
	for x := range values {
		values[x] = digits.Minus(digits.Plus(old[x], over[x]), zero)
	}
	return values
}
