package gates

import (
	"jurist/api"
	"jurist/terms"
)

// node is a part that is encoded, and whether its last argument is of sort Bool.
type node struct {
	api.Node
	term     api.Term
	boolArgs bool
}

// connective is how the parts of an operator are encoded: what their literal is, and the clauses that define it.
type connective struct {
	literal func(b *Board, n node) api.Lit
	define  func(b *Board, n node, l api.Lit)
}

// connectives are the encodings of the parts of sort Bool.
func connectives() map[api.Op]connective {
	return map[api.Op]connective{
		api.OpTrue:  {(*Board).yes, (*Board).nothing},
		api.OpFalse: {(*Board).no, (*Board).nothing},
		api.OpApp:   {(*Board).own, (*Board).nothing},
		api.OpNot:   {(*Board).negation, (*Board).tie},
		api.OpLe:    {(*Board).atMost, (*Board).tie},
		api.OpEq:    {(*Board).equality, (*Board).agree},
		api.OpAnd:   {(*Board).own, (*Board).and},
		api.OpOr:    {(*Board).own, (*Board).or},
		api.OpIte:   {(*Board).own, (*Board).choose},
	}
}

// part encodes one part of the assertions.
func (b *Board) part(connectives map[api.Op]connective, s *terms.Store, t api.Term, made api.Node) {
	n := node{Node: made, term: t}
	if len(made.Args) > 0 {
		last, _ := s.Node(made.Args[len(made.Args)-1])
		n.boolArgs = last.Sort == api.Bool
	}
	if n.Sort == api.Bool {
		c := connectives[n.Op]
		b.lits[t] = c.literal(b, n)
		c.define(b, n, b.lits[t])
	} else if n.Op == api.OpIte {
		b.chosen(n)
	}
}

func (b *Board) yes(node) api.Lit { return 1 }

func (b *Board) no(node) api.Lit { return -1 }

func (b *Board) nothing(node, api.Lit) {}

func (b *Board) negation(n node) api.Lit { return -b.lits[n.Args[0]] }

// own is the literal of a part's own atom.
func (b *Board) own(n node) api.Lit {
	if v, e := b.frame.Vertex(n.term); e == api.OK {
		return b.atom(api.Atom{Kind: api.AtomTrue, A: v})
	}
	return b.atom(api.Atom{Kind: api.AtomName, A: int(n.term)})
}

// tie makes it that a literal and the part's vertex are true together, if there is a vertex.
func (b *Board) tie(n node, l api.Lit) {
	if _, e := b.frame.Vertex(n.term); e != api.OK {
		return
	}
	m := b.own(n)
	b.clause(-m, l)
	b.clause(m, -l)
}

func (b *Board) vertex(t api.Term) int {
	v, _ := b.frame.Vertex(t)
	return v
}

func (b *Board) atMost(n node) api.Lit {
	x, _, _ := b.frame.Space().Of(n.Args[0])
	y, _, _ := b.frame.Space().Of(n.Args[1])
	return b.atom(api.Atom{Kind: api.AtomLe, A: x, B: y, C: n.Num})
}

func (b *Board) equality(n node) api.Lit {
	if n.boolArgs {
		return b.own(n)
	}
	return b.equal(b.vertex(n.Args[0]), b.vertex(n.Args[1]))
}

// agree defines an Eq by the literals of its arguments if they are of sort Bool; any other Eq got its clauses with its atom, and is only tied to its vertex.
func (b *Board) agree(n node, l api.Lit) {
	if !n.boolArgs {
		b.tie(n, l)
		return
	}
	x, y := b.lits[n.Args[0]], b.lits[n.Args[1]]
	b.clause(-l, -x, y)
	b.clause(-l, x, -y)
	b.clause(l, x, y)
	b.clause(l, -x, -y)
}

func (b *Board) and(n node, l api.Lit) {
	all := []api.Lit{l}
	for _, a := range n.Args {
		b.clause(-l, b.lits[a])
		all = append(all, -b.lits[a])
	}
	b.clause(all...)
}

func (b *Board) or(n node, l api.Lit) {
	all := []api.Lit{-l}
	for _, a := range n.Args {
		b.clause(l, -b.lits[a])
		all = append(all, b.lits[a])
	}
	b.clause(all...)
}

// choose defines an Ite of sort Bool.
func (b *Board) choose(n node, l api.Lit) {
	c, x, y := b.lits[n.Args[0]], b.lits[n.Args[1]], b.lits[n.Args[2]]
	b.clause(-l, -c, x)
	b.clause(-l, c, y)
	b.clause(l, -c, -x)
	b.clause(l, c, -y)
}

// chosen says of an Ite of another sort which of the two it is.
func (b *Board) chosen(n node) {
	v, c := b.vertex(n.term), b.lits[n.Args[0]]
	first := b.equal(v, b.vertex(n.Args[1]))
	second := b.equal(v, b.vertex(n.Args[2]))
	b.clause(-c, first)
	b.clause(c, second)
}
