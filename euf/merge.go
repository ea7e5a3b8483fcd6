package euf

import (
	"slices"

	"jurist/api"
)

// separate states that two vertices are different.
func (e *Euf) separate(s apart) {
	index := len(e.apart)
	e.apart = append(e.apart, s)
	x, y := e.class[s.a], e.class[s.b]
	e.sides[x] = append(e.sides[x], index)
	e.sides[y] = append(e.sides[y], index)
	violated := len(e.broken)
	if x == y {
		e.broken = append(e.broken, index)
	}
	e.undo = append(e.undo, func() {
		e.apart, e.broken = e.apart[:index], e.broken[:violated]
		e.sides[y] = e.sides[y][:len(e.sides[y])-1]
		e.sides[x] = e.sides[x][:len(e.sides[x])-1]
	})
}

// close makes everything equal that is to be.
func (e *Euf) close() {
	for len(e.pending) > 0 {
		m := e.pending[0]
		e.pending = e.pending[1:]
		if e.class[m.a] != e.class[m.b] {
			e.merge(m)
		}
	}
	e.pending = nil
}

// signature tells an application's function and the classes of its arguments from all others.
func (e *Euf) signature(v int) string {
	x := e.vertices[v]
	b := make([]byte, 0, 8+4*len(x.Args))
	for shift := 0; shift < 64; shift += 8 {
		b = append(b, byte(x.Fun>>shift))
	}
	for _, arg := range x.Args {
		c := e.class[arg]
		b = append(b, byte(c), byte(c>>8), byte(c>>16), byte(c>>24))
	}
	return string(b)
}

// enter files an application under its signature; one that is filed there already is equal.
func (e *Euf) enter(v int) (string, bool) {
	key := e.signature(v)
	if other, there := e.signatures[key]; there {
		if e.class[other] != e.class[v] {
			e.pending = append(e.pending, merge{v, other, reason{}})
		}
		return key, false
	}
	e.signatures[key] = v
	return key, true
}

// entry is a signature and what is filed under it.
type entry struct {
	key string
	v   int
}

// merge makes two classes one: the smaller one joins the greater one.
func (e *Euf) merge(m merge) {
	if e.weight(m.a) > e.weight(m.b) {
		m.a, m.b = m.b, m.a
	}
	from, to := e.class[m.a], e.class[m.b]
	e.hang(m)
	users := slices.Clone(e.users[from])
	var old []entry
	for _, v := range users {
		key := e.signature(v)
		if filed, there := e.signatures[key]; there && filed == v {
			delete(e.signatures, key)
			old = append(old, entry{key, v})
		}
	}
	moved := slices.Clone(e.members[from])
	for _, v := range moved {
		e.class[v] = to
	}
	var fresh []string
	for _, v := range users {
		if key, made := e.enter(v); made {
			fresh = append(fresh, key)
		}
	}
	joined := e.join(from, to)
	e.undo = append(e.undo, func() {
		joined()
		for _, key := range fresh {
			delete(e.signatures, key)
		}
		for _, v := range moved {
			e.class[v] = from
		}
		for _, x := range old {
			e.signatures[x.key] = x.v
		}
		e.cut(m)
	})
}

// weight is how much work it is to let a vertex's class join another one.
func (e *Euf) weight(v int) int { return len(e.members[e.class[v]]) + len(e.users[e.class[v]]) }

// join adds one class's lists to another one's; it returns how that is undone.
func (e *Euf) join(from, to int) func() {
	members, users, sides := len(e.members[to]), len(e.users[to]), len(e.sides[to])
	least, violated := e.least[to], len(e.broken)
	e.members[to] = append(e.members[to], e.members[from]...)
	e.users[to] = append(e.users[to], e.users[from]...)
	e.least[to] = min(least, e.least[from])
	for _, i := range e.sides[from] {
		// A statement within the old class was violated before.
		x, y := e.apart[i].a, e.apart[i].b
		if e.class[x] == e.class[y] && !slices.Contains(e.broken, i) {
			e.broken = append(e.broken, i)
		}
	}
	e.sides[to] = append(e.sides[to], e.sides[from]...)
	return func() {
		e.members[to], e.users[to], e.sides[to] = e.members[to][:members], e.users[to][:users], e.sides[to][:sides]
		e.least[to], e.broken = least, e.broken[:violated]
	}
}

// hang adds an edge to the forest: what hangs above its first end is turned round, so that this one is a root.
func (e *Euf) hang(m merge) {
	above, why := m.b, m.why
	for v := m.a; v != root; {
		next, old := e.parents[v], e.reasons[v]
		e.parents[v], e.reasons[v] = above, why
		above, why, v = v, old, next
	}
}

// cut takes an edge out of the forest, whichever of its ends hangs on the other one by now.
func (e *Euf) cut(m merge) {
	below := m.a
	if e.parents[below] != m.b {
		below = m.b
	}
	e.parents[below], e.reasons[below] = root, reason{}
}

// given is a literal's conclusion as layer 17 has it.
func (e *Euf) given(l api.Lit) (int, int) {
	a := e.atoms[max(l, -l)-1]
	switch {
	case a.Kind == api.AtomEq:
		return a.A, a.B
	case l > 0:
		return a.A, 0
	}
	return a.A, 1
}
