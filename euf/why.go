package euf

import "jurist/api"

// Why explains an equality by links, the last of which concludes it.
func (e *Euf) Why(a, b int) ([]api.Link, api.Errno) {
	if !e.ready() {
		return nil, api.ErrNil
	}
	if !e.Same(a, b) {
		return nil, api.ErrNone
	}
	w := newWriter(e)
	w.equal(a, b)
	return w.links, api.OK
}

// certificate tells why a statement that two vertices are different can't be.
func (e *Euf) certificate(s apart) []api.Link {
	w := newWriter(e)
	i := w.equal(s.a, s.b)
	if s.lit == 0 {
		w.add(api.Link{Kind: api.LinkClash, I: i})
	} else {
		w.add(api.Link{Kind: api.LinkAgainst, Lit: s.lit, I: i})
	}
	return w.links
}

// writer writes links; what is concluded already is not concluded again.
type writer struct {
	euf   *Euf
	links []api.Link
	known map[[2]int]int // the link that concludes a pair
}

func newWriter(e *Euf) *writer { return &writer{euf: e, known: map[[2]int]int{}} }

func (w *writer) add(l api.Link) int {
	w.links = append(w.links, l)
	return len(w.links) - 1
}

// conclude is the link of a pair, which is written if there is none.
func (w *writer) conclude(a, b int, make func() api.Link) int {
	if i, there := w.known[[2]int{a, b}]; there {
		return i
	}
	i := w.add(make())
	w.known[[2]int{a, b}] = i
	return i
}

// equal is the link that concludes a and b, which are equal.
func (w *writer) equal(a, b int) int {
	if i, there := w.known[[2]int{a, b}]; there {
		return i
	}
	if i, there := w.known[[2]int{b, a}]; there {
		return w.conclude(a, b, func() api.Link { return api.Link{Kind: api.LinkTurn, I: i} })
	}
	if a == b {
		return w.conclude(a, a, func() api.Link { return api.Link{Kind: api.LinkSame, A: a} })
	}
	path := w.euf.path(a, b)
	whole := w.edge(path[0], path[1])
	for k := 2; k < len(path); k++ {
		next := w.edge(path[k-1], path[k])
		first := whole
		whole = w.conclude(a, path[k], func() api.Link { return api.Link{Kind: api.LinkThen, I: first, J: next} })
	}
	return whole
}

// path is the vertices from a to b in the forest.
func (e *Euf) path(a, b int) []int {
	places := map[int]int{}
	var up []int
	for v := a; v != root; v = e.parents[v] {
		places[v] = len(up)
		up = append(up, v)
	}
	var down []int
	v := b
	for {
		if place, there := places[v]; there {
			up = up[:place+1]
			break
		}
		down = append(down, v)
		v = e.parents[v]
	}
	for i := len(down) - 1; i >= 0; i-- {
		up = append(up, down[i])
	}
	return up
}

// edge is the link that concludes the ends of an edge of the forest, in this order.
func (w *writer) edge(a, b int) int {
	e := w.euf
	why := e.reasons[a]
	if e.parents[a] != b {
		why = e.reasons[b]
	}
	if why.lit == 0 {
		return w.congruence(a, b)
	}
	x, y := e.given(why.lit)
	i := w.conclude(x, y, func() api.Link { return api.Link{Kind: api.LinkGiven, Lit: why.lit} })
	if x == a && y == b {
		return i
	}
	return w.conclude(a, b, func() api.Link { return api.Link{Kind: api.LinkTurn, I: i} })
}

// congruence is the link that concludes two applications of equal arguments.
func (w *writer) congruence(a, b int) int {
	if i, there := w.known[[2]int{a, b}]; there {
		return i
	}
	if i, there := w.known[[2]int{b, a}]; there {
		return w.conclude(a, b, func() api.Link { return api.Link{Kind: api.LinkTurn, I: i} })
	}
	var list []int
	for k, arg := range w.euf.vertices[a].Args {
		list = append(list, w.equal(arg, w.euf.vertices[b].Args[k]))
	}
	return w.conclude(a, b, func() api.Link { return api.Link{Kind: api.LinkApply, A: a, B: b, List: list} })
}
