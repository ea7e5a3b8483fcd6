package gates

import (
	"jurist/api"
	"jurist/terms"
)

// node is a part that is encoded, and whether its last argument is of sort Bool.
type node struct {
	api.Node
	term     api.Term
	boolArgs bool
}

// encoder creates a part's clauses, and is its literal.
type encoder func(b *Board, n node) api.Lit

// encoders are the encoders of the parts of sort Bool.
func encoders() map[api.Op]encoder {
	return map[api.Op]encoder{
		api.OpTrue:  func(*Board, node) api.Lit { return 1 },
		api.OpFalse: func(*Board, node) api.Lit { return -1 },
		api.OpNot:   func(b *Board, n node) api.Lit { return b.withVertex(n, -b.lits[n.Args[0]]) },
		api.OpApp:   (*Board).own,
		api.OpLe:    (*Board).atMost,
		api.OpEq:    (*Board).equality,
		api.OpAnd:   (*Board).and,
		api.OpOr:    (*Board).or,
		api.OpIte:   (*Board).choice,
	}
}

// part encodes one part of the assertions.
func (b *Board) part(encoders map[api.Op]encoder, s *terms.Store, t api.Term, made api.Node) {
	n := node{Node: made, term: t}
	if len(made.Args) > 0 {
		last, _ := s.Node(made.Args[len(made.Args)-1])
		n.boolArgs = last.Sort == api.Bool
	}
	if n.Sort == api.Bool {
		b.lits[t] = encoders[n.Op](b, n)
	} else if n.Op == api.OpIte {
		b.chosen(n)
	}
}

// own is the literal of a part's own atom.
func (b *Board) own(n node) api.Lit {
	if v, e := b.frame.Vertex(n.term); e == api.OK {
		return b.atom(api.Atom{Kind: api.AtomTrue, A: v})
	}
	return b.atom(api.Atom{Kind: api.AtomName, A: int(n.term)})
}

// withVertex ties a literal to the part's vertex, if there is one.
func (b *Board) withVertex(n node, l api.Lit) api.Lit {
	if _, e := b.frame.Vertex(n.term); e == api.OK {
		m := b.own(n)
		b.clause(-m, l)
		b.clause(m, -l)
	}
	return l
}

func (b *Board) vertex(t api.Term) int {
	v, _ := b.frame.Vertex(t)
	return v
}

func (b *Board) atMost(n node) api.Lit {
	x, _, _ := b.frame.Space().Of(n.Args[0])
	y, _, _ := b.frame.Space().Of(n.Args[1])
	return b.withVertex(n, b.atom(api.Atom{Kind: api.AtomLe, A: x, B: y, C: n.Num}))
}

func (b *Board) equality(n node) api.Lit {
	if !n.boolArgs {
		return b.withVertex(n, b.equal(b.vertex(n.Args[0]), b.vertex(n.Args[1])))
	}
	l, x, y := b.own(n), b.lits[n.Args[0]], b.lits[n.Args[1]]
	b.clause(-l, -x, y)
	b.clause(-l, x, -y)
	b.clause(l, x, y)
	b.clause(l, -x, -y)
	return l
}

func (b *Board) and(n node) api.Lit {
	l := b.own(n)
	all := []api.Lit{l}
	for _, a := range n.Args {
		b.clause(-l, b.lits[a])
		all = append(all, -b.lits[a])
	}
	b.clause(all...)
	return l
}

func (b *Board) or(n node) api.Lit {
	l := b.own(n)
	all := []api.Lit{-l}
	for _, a := range n.Args {
		b.clause(l, -b.lits[a])
		all = append(all, b.lits[a])
	}
	b.clause(all...)
	return l
}

// choice is the literal of an Ite of sort Bool.
func (b *Board) choice(n node) api.Lit {
	l, c, x, y := b.own(n), b.lits[n.Args[0]], b.lits[n.Args[1]], b.lits[n.Args[2]]
	b.clause(-l, -c, x)
	b.clause(-l, c, y)
	b.clause(l, -c, -x)
	b.clause(l, c, -y)
	return l
}

// chosen says of an Ite of another sort which of the two it is.
func (b *Board) chosen(n node) {
	v, c := b.vertex(n.term), b.lits[n.Args[0]]
	first := b.equal(v, b.vertex(n.Args[1]))
	second := b.equal(v, b.vertex(n.Args[2]))
	b.clause(-c, first)
	b.clause(c, second)
}
