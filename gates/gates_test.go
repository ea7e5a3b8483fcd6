package gates

import (
	"math"
	"math/rand"
	"reflect"
	"slices"
	"testing"

	"jurist/api"
	"jurist/elab"
	"jurist/lex"
	"jurist/sorts"
	"jurist/terms"
	"jurist/tree"
	"jurist/world"
)

// book has the sort U; p, q, r of Bool, x, y, z of Int, u, v of U, f from Int to Int, h from Bool to U.
func book(t *testing.T) *elab.Book {
	t.Helper()
	b := &elab.Book{Names: sorts.New(), Store: terms.New()}
	b.Names.DeclareSort("U")
	for _, f := range []api.Fun{{Name: "p"}, {Name: "q"}, {Name: "r"}, {Name: "x", Result: 1}, {Name: "y", Result: 1}, {Name: "z", Result: 1}, {Name: "u", Result: 2}, {Name: "v", Result: 2}, {Name: "f", Args: []api.Sort{1}, Result: 1}, {Name: "h", Args: []api.Sort{0}, Result: 2}} {
		if _, e := b.Names.DeclareFun(f); e != api.OK {
			t.Fatal("declare", f)
		}
	}
	return b
}

func term(t *testing.T, b *elab.Book, s string) api.Term {
	t.Helper()
	l, _, _ := lex.Tokens([]byte(s))
	x, _, _ := tree.Next(l, 0)
	v, e := elab.Term(b, x)
	if e != api.OK {
		t.Fatal("term", s, e)
	}
	return v
}

func is(v int) api.Atom             { return api.Atom{Kind: api.AtomTrue, A: v} }
func name(x int) api.Atom           { return api.Atom{Kind: api.AtomName, A: x} }
func eq(v, w int) api.Atom          { return api.Atom{Kind: api.AtomEq, A: v, B: w} }
func le(x, y int, c int64) api.Atom { return api.Atom{Kind: api.AtomLe, A: x, B: y, C: c} }

type lits = []api.Lit

func TestEncoding(t *testing.T) {
	for in, want := range map[string]api.Problem{
		"true":                {Vars: 1, Atoms: []api.Atom{is(0)}, Clauses: []lits{{1}}, Tops: lits{1}},
		"false":               {Vars: 1, Atoms: []api.Atom{is(0)}, Clauses: []lits{{1}}, Tops: lits{-1}},
		"p":                   {Vars: 1, Atoms: []api.Atom{is(0), is(2)}, Clauses: []lits{{1}}, Tops: lits{2}},
		"(not p)":             {Vars: 1, Atoms: []api.Atom{is(0), is(2)}, Clauses: []lits{{1}}, Tops: lits{-2}},
		"(and p q)":           {Vars: 1, Atoms: []api.Atom{is(0), is(2), is(3), name(5)}, Clauses: []lits{{1}, {-4, 2}, {-4, 3}, {4, -2, -3}}, Tops: lits{4}},
		"(or p true (not q))": {Vars: 1, Atoms: []api.Atom{is(0), is(2), is(3), name(6)}, Clauses: []lits{{1}, {4, -2}, {4, -1}, {4, 3}, {-4, 2, 1, -3}}, Tops: lits{4}},
		"(= p q)":             {Vars: 1, Atoms: []api.Atom{is(0), is(2), is(3), name(5)}, Clauses: []lits{{1}, {-4, -2, 3}, {-4, 2, -3}, {4, 2, 3}, {4, -2, -3}}, Tops: lits{4}},
		"(ite p q r)":         {Vars: 1, Atoms: []api.Atom{is(0), is(2), is(3), is(4), name(6)}, Clauses: []lits{{1}, {-5, -2, 3}, {-5, 2, 4}, {5, -2, -3}, {5, 2, -4}}, Tops: lits{5}},
		"(= u v)":             {Vars: 1, Atoms: []api.Atom{is(0), eq(2, 3)}, Clauses: []lits{{1}}, Tops: lits{2}},
		"(= u u)":             {Vars: 1, Atoms: []api.Atom{is(0)}, Clauses: []lits{{1}}, Tops: lits{1}},
		"(<= (- y x) 7)":      {Vars: 3, Atoms: []api.Atom{is(0), le(1, 2, 7)}, Clauses: []lits{{1}}, Tops: lits{2}},
		"(<= x 7)":            {Vars: 2, Atoms: []api.Atom{is(0), le(1, 0, 7)}, Clauses: []lits{{1}}, Tops: lits{2}},
		"(= x (+ y 5))":       {Vars: 3, Atoms: []api.Atom{is(0), eq(2, 4), le(1, 2, 5), le(2, 1, -5)}, Clauses: []lits{{1}, {-2, 3}, {-2, 4}, {2, -3, -4}}, Tops: lits{2}},
		"(= (+ x 5) y)":       {Vars: 3, Atoms: []api.Atom{is(0), eq(3, 4), le(2, 1, 5), le(1, 2, -5)}, Clauses: []lits{{1}, {-2, 3}, {-2, 4}, {2, -3, -4}}, Tops: lits{2}},
		"(= x (+ x 5))":       {Vars: 2, Atoms: []api.Atom{is(0), eq(2, 3)}, Clauses: []lits{{1}, {-2}}, Tops: lits{2}},
		"(= x (ite p x 3))": {Vars: 3, Atoms: []api.Atom{is(0), is(3), eq(2, 5), le(1, 2, 0), le(2, 1, 0), eq(4, 5), le(0, 2, -3), le(2, 0, 3)},
			Clauses: []lits{{1}, {-3, 4}, {-3, 5}, {3, -4, -5}, {-6, 7}, {-6, 8}, {6, -7, -8}, {-2, 3}, {2, 6}}, Tops: lits{3}},
		"(= u (h (not p)))":   {Vars: 1, Atoms: []api.Atom{is(0), is(3), is(4), eq(2, 5)}, Clauses: []lits{{1}, {-3, -2}, {3, 2}}, Tops: lits{4}},
		"(= u (h (and p q)))": {Vars: 1, Atoms: []api.Atom{is(0), is(3), is(4), is(5), eq(2, 6)}, Clauses: []lits{{1}, {-4, 2}, {-4, 3}, {4, -2, -3}}, Tops: lits{5}},
		"(= u (h (= u v)))":   {Vars: 1, Atoms: []api.Atom{is(0), eq(2, 3), is(4), eq(2, 5)}, Clauses: []lits{{1}, {-3, 2}, {3, -2}}, Tops: lits{4}},
		"(= u (h (<= x y)))":  {Vars: 3, Atoms: []api.Atom{is(0), le(1, 2, 0), is(5), eq(2, 6)}, Clauses: []lits{{1}, {-3, 2}, {3, -2}}, Tops: lits{4}},
		"(= u (h true))":      {Vars: 1, Atoms: []api.Atom{is(0), eq(2, 3)}, Clauses: []lits{{1}}, Tops: lits{2}},
	} {
		b := book(t)
		g, e := New(b.Store, term(t, b, in))
		if e != api.OK {
			t.Fatal(in, e)
		}
		got := g.Problem()
		got.Vertices = nil
		if !reflect.DeepEqual(got, want) {
			t.Errorf("%s: %+v, want %+v", in, got, want)
		}
	}
}

func TestConnectives(t *testing.T) {
	table := connectives()
	for _, op := range []api.Op{api.OpTrue, api.OpFalse, api.OpApp, api.OpNot, api.OpLe, api.OpEq, api.OpAnd, api.OpOr, api.OpIte} {
		if c := table[op]; c.literal == nil || c.define == nil {
			t.Error("an operator without its functions", op)
		}
	}
	if len(table) != 9 {
		t.Error("operators that no part of sort Bool has", len(table))
	}
	// The fields of the table are what a board encodes by.
	b := book(t)
	g, _ := New(b.Store)
	p, q := term(t, b, "p"), term(t, b, "q")
	and := term(t, b, "(and p q)")
	g.part(table, b.Store, p, api.Node{Op: api.OpApp})
	g.part(table, b.Store, q, api.Node{Op: api.OpApp})
	g.part(map[api.Op]connective{api.OpAnd: {(*Board).yes, (*Board).or}}, b.Store, and, api.Node{Op: api.OpAnd, Args: []api.Term{p, q}})
	if l, e := g.Lit(and); l != 1 || e != api.OK || !reflect.DeepEqual(g.Problem().Clauses, []lits{{1}, {1, -2}, {1, -3}, {-1, 2, 3}}) {
		t.Error("another table", l, e, g.Problem().Clauses)
	}
}

func TestSeveral(t *testing.T) {
	b := book(t)
	p, q := term(t, b, "p"), term(t, b, "q")
	or := term(t, b, "(or p q)")
	g, e := New(b.Store, or, p, or, api.False)
	if got := g.Problem(); e != api.OK || !reflect.DeepEqual(got.Tops, lits{4, 2, 4, -1}) || len(got.Vertices) != 4 || !reflect.DeepEqual(got.Vertices, g.Frame().Vertices()) {
		t.Error("Problem", got, e)
	}
	for x, want := range map[api.Term]api.Lit{p: 2, q: 3, or: 4, api.False: -1} {
		if l, e := g.Lit(x); l != want || e != api.OK {
			t.Error("Lit", x, l, e)
		}
	}
	for _, x := range []api.Term{api.True, api.Zero, -1, 99, math.MaxInt} {
		if l, e := g.Lit(x); l != 0 || e != api.ErrNone {
			t.Error("Lit", x, l, e)
		}
	}
	got := g.Problem()
	got.Clauses[1][0], got.Atoms[0], got.Tops[0], got.Vertices[2].Fun = 77, eq(1, 2), 77, 77
	if again := g.Problem(); again.Clauses[1][0] == 77 || again.Atoms[0] != is(0) || again.Tops[0] == 77 || again.Vertices[2].Fun == 77 {
		t.Error("Problem gives out a copy")
	}
}

func TestPair(t *testing.T) {
	b := book(t)
	// Vertices: 2 x, 3 y, 4 f(x), 5 f(y), 6 u, 7 v, 8 x + 1, 9 p.
	g, e := New(b.Store, term(t, b, "(and (= (f x) (f y)) (= u v) (<= (- y (+ x 1)) 3) (= (f (+ x 1)) y) p)"))
	if e != api.OK {
		t.Fatal(e)
	}
	at := func(s string) int {
		v, e := g.Frame().Vertex(term(t, b, s))
		if e != api.OK {
			t.Fatal("vertex", s)
		}
		return v
	}
	atoms := len(g.Problem().Atoms)
	if a, c, e := g.Pair(at("y"), at("x")); e != api.OK || !reflect.DeepEqual(a, []api.Atom{eq(at("x"), at("y")), le(1, 3, 0), le(3, 1, 0)}) || len(c) != 3 || !reflect.DeepEqual(c[2], lits{api.Lit(atoms + 1), -api.Lit(atoms + 2), -api.Lit(atoms + 3)}) {
		t.Error("Pair of x and y", a, c, e)
	}
	if a, c, e := g.Pair(at("x"), at("y")); len(a) != 0 || len(c) != 0 || e != api.OK {
		t.Error("Pair again", a, c, e)
	}
	if a, c, e := g.Pair(at("x"), at("(+ x 1)")); e != api.OK || len(a) != 1 || !reflect.DeepEqual(c, []lits{{-api.Lit(atoms + 4)}}) {
		t.Error("Pair of one variable", a, c, e)
	}
	if a, c, e := g.Pair(at("u"), at("v")); len(a) != 0 || len(c) != 0 || e != api.OK {
		t.Error("Pair that is there", a, c, e)
	}
	if p := g.Problem(); len(p.Atoms) != atoms+4 {
		t.Error("the problem has them", len(p.Atoms))
	}
	n := len(g.Problem().Vertices)
	for _, c := range [][2]int{{at("x"), n}, {n, at("x")}, {at("x"), at("x")}, {at("x"), at("u")}, {0, 1}, {at("p"), 0}, {-1, 2}, {2, -1}, {2, 99}, {math.MaxInt, 2}} {
		if a, cl, e := g.Pair(c[0], c[1]); a != nil || cl != nil || e != api.ErrArg {
			t.Error("Pair", c, e)
		}
	}
	// The differences of a pair may be there already.
	b = book(t)
	g, _ = New(b.Store, term(t, b, "(and (<= x y) (= (f x) (f y)))"))
	if a, c, e := g.Pair(at("x"), at("y")); e != api.OK || len(a) != 2 || len(c) != 3 || a[1] != le(2, 1, 0) {
		t.Error("Pair with a difference that is there", a, c, e)
	}
}

func TestErrors(t *testing.T) {
	if g, e := New(nil, -1); g != nil || e != api.ErrNil {
		t.Error("no store", e)
	}
	s := terms.New()
	if g, e := New(s, api.Zero, 77); g != nil || e != api.ErrNone {
		t.Error("no term", e)
	}
	if g, e := New(s, api.True, api.Zero); g != nil || e != api.ErrSort {
		t.Error("an integer", e)
	}
	if g, e := New(s); e != api.OK || len(g.Problem().Tops) != 0 || len(g.Problem().Clauses) != 1 {
		t.Error("no assertions", e)
	}
	for _, g := range []*Board{nil, {}} {
		_, e1 := g.Lit(0)
		a, c, e2 := g.Pair(0, 1)
		if e1 != api.ErrNil || e2 != api.ErrNil || a != nil || c != nil || g.Frame() != nil || !reflect.DeepEqual(g.Problem(), api.Problem{}) {
			t.Error("nil or zero")
		}
	}
}

func TestFull(t *testing.T) {
	// Each Ite of integers makes up to six atoms; 65536 are reached with many of them.
	s := terms.New()
	p, _ := s.App(0, 0)
	var l []api.Term
	build := func(n int) []api.Term {
		for i := len(l); i < n; i++ {
			x, _ := s.App(10+3*i, 1)
			k, _ := s.Num(int64(i + 1))
			ite, _ := s.Ite(p, x, k)
			e, _ := s.Eq(ite, ite)
			l = append(l, e)
		}
		return l[:n]
	}
	if _, e := New(s, build(3000)...); e != api.OK {
		t.Error("18002 atoms", e)
	}
	fresh := terms.New()
	var vs []api.Term
	for i := range 400 {
		v, _ := fresh.App(i, 1)
		vs = append(vs, v)
	}
	big, _ := fresh.App(1000, 0, vs[:20]...)
	all := []api.Term{big}
	for i := 20; i < 400; i += 20 {
		a, _ := fresh.App(1000+i, 0, vs[i:i+20]...)
		all = append(all, a)
	}
	g, e := New(fresh, all...)
	if e != api.OK {
		t.Fatal(e)
	}
	full := false
	for v := 2; v < 402 && !full; v++ {
		for w := v + 1; w < 402 && !full; w++ {
			_, _, e := g.Pair(v, w)
			if full = e == api.ErrFull; !full {
				continue
			}
			n, clauses := len(g.Problem().Atoms), len(g.Problem().Clauses)
			if n > api.MaxAtoms || n < api.MaxAtoms-2 {
				t.Error("full at", n)
			}
			if a, c, e := g.Pair(v, w); a != nil || c != nil || e != api.ErrFull || len(g.Problem().Atoms) != n || len(g.Problem().Clauses) != clauses {
				t.Error("something was added")
			}
			if a, c, e := g.Pair(2, 3); a != nil || c != nil || e != api.OK {
				t.Error("a pair that is there", e)
			}
		}
	}
	if !full {
		t.Error("never full")
	}
}

func TestLastAtom(t *testing.T) {
	// Pairs of elements make one atom each, so that the last place is filled, too.
	s := terms.New()
	var us []api.Term
	for i := range 380 {
		u, _ := s.App(i, 2)
		us = append(us, u)
	}
	var all []api.Term
	for i := range 19 {
		a, _ := s.App(1000+i, 0, us[20*i:20*i+20]...)
		all = append(all, a)
	}
	g, e := New(s, all...)
	if e != api.OK {
		t.Fatal(e)
	}
	made := 1 + 19
	for v := 2; v < 382; v++ {
		for w := v + 1; w < 382; w++ {
			_, _, e := g.Pair(v, w)
			if want := made < api.MaxAtoms; want != (e == api.OK) || !want && e != api.ErrFull {
				t.Fatal("Pair", v, w, made, e)
			}
			if e == api.OK {
				made++
			}
		}
	}
	if len(g.Problem().Atoms) != api.MaxAtoms {
		t.Error("atoms", made)
	}
}

func TestFullAtOnce(t *testing.T) {
	// Each Ite whose branches are new makes seven atoms: 20000 terms are too few for 65536, unless the branches are shared.
	s := terms.New()
	p, _ := s.App(0, 0)
	var vs, all []api.Term
	for i := range 125 {
		v, _ := s.App(1+i, 1)
		vs = append(vs, v)
	}
	for i := range 124 {
		for j := i + 1; j < 125; j++ {
			ite, _ := s.Ite(p, vs[i], vs[j])
			e, _ := s.Eq(ite, vs[0])
			all = append(all, e)
		}
	}
	if _, e := New(s, all[:5000]...); e != api.OK {
		t.Error("many atoms", e)
	}
	if g, e := New(s, all...); e != api.ErrFull || g != nil {
		t.Error("too many atoms", e)
	}
	// As many assertions as fit, and single functions up to the last atom.
	fit := 5000
	for ; fit < len(all); fit += 100 {
		if _, e := New(s, all[:fit+100]...); e != api.OK {
			break
		}
	}
	board, _ := New(s, all[:fit]...)
	exact := slices.Clone(all[:fit])
	for i := len(board.Problem().Atoms); i < api.MaxAtoms; i++ {
		p, e := s.App(5000+i, 0)
		if e != api.OK {
			t.Fatal("a function", e)
		}
		exact = append(exact, p)
	}
	if g, e := New(s, exact...); e != api.OK || len(g.Problem().Atoms) != api.MaxAtoms {
		t.Error("MaxAtoms atoms", e)
	}
	one, _ := s.App(4999, 0)
	if _, e := New(s, append(exact, one)...); e != api.ErrFull {
		t.Error("one atom more", e)
	}
	if _, e := New(s, append(all, api.Zero)...); e != api.ErrSort {
		t.Error("ErrSort is ahead of ErrFull", e)
	}
}

// TestWidened checks that in each world, with atoms by their meaning, all clauses hold and each part's literal is its value.
func TestWidened(t *testing.T) {
	r := rand.New(rand.NewSource(9))
	b := book(t)
	for _, s := range []string{"(and p (or q (not r)) (= p q))", "(= (f x) (f (+ y 1)))", "(ite p (<= x y) (= u v))", "(= u (h (= x y)))", "(= (ite p x (+ y 1)) (ite q 3 (f y)))", "(= v (h (not (< x y))))", "(= (h (and p q)) (h (ite p q r)))"} {
		term(t, b, s)
	}
	var parts []api.Term
	for i := range b.Store.Len() {
		if n, _ := b.Store.Node(api.Term(i)); n.Sort == api.Bool {
			parts = append(parts, api.Term(i))
		}
	}
	g, e := New(b.Store, parts...)
	if e != api.OK {
		t.Fatal(e)
	}
	n := len(g.Problem().Vertices)
	for range 20 {
		g.Pair(r.Intn(n), r.Intn(n))
	}
	p := g.Problem()
	for range 200 {
		w := randomWorld(r)
		truth := make([]bool, len(p.Atoms)+1)
		for i, a := range p.Atoms {
			truth[i+1] = meaning(t, b, g, w, a)
		}
		holds := func(l api.Lit) bool {
			if l < 0 {
				return !truth[-l]
			}
			return truth[l]
		}
		for _, c := range p.Clauses {
			some := false
			for _, l := range c {
				some = some || holds(l)
			}
			if !some {
				t.Fatal("a clause that does not hold", c)
			}
		}
		for _, x := range parts {
			l, _ := g.Lit(x)
			if v, _ := world.Value(b.Store, w, x); v.B != holds(l) {
				t.Fatal("a part's literal", x)
			}
		}
	}
}

func randomWorld(r *rand.Rand) api.World {
	num := func() api.Val { return api.Val{Sort: 1, I: api.Int{Low: r.Int63n(3)}} }
	w := api.World{Sizes: []api.Size{{Sort: 2, Size: 2}}}
	for i := range 10 {
		f := api.Table{Fun: i}
		switch {
		case i < 3:
			f.Else.B = r.Intn(2) == 0
		case i < 6:
			f.Else = num()
		case i < 8:
			f.Else = api.Val{Sort: 2, E: r.Int63n(2)}
		case i == 8:
			f.Else, f.Rows = num(), []api.Row{{Args: []api.Val{num()}, Value: num()}, {Args: []api.Val{num()}, Value: num()}}
		default:
			f.Else, f.Rows = api.Val{Sort: 2}, []api.Row{{Args: []api.Val{{B: true}}, Value: api.Val{Sort: 2, E: r.Int63n(2)}}}
		}
		w.Funs = append(w.Funs, f)
	}
	return w
}

func meaning(t *testing.T, b *elab.Book, g *Board, w api.World, a api.Atom) bool {
	value := func(x api.Term) api.Val {
		v, e := world.Value(b.Store, w, x)
		if e != api.OK {
			t.Fatal("value", e)
		}
		return v
	}
	vertex := func(v int) api.Val {
		x, _ := g.Frame().Term(v)
		return value(x)
	}
	switch a.Kind {
	case api.AtomEq:
		return vertex(a.A) == vertex(a.B)
	case api.AtomTrue:
		return vertex(a.A).B
	case api.AtomLe:
		x, _ := g.Frame().Space().Base(a.A)
		y, _ := g.Frame().Space().Base(a.B)
		le, _ := b.Store.Le(x, y, a.C)
		return value(le).B
	}
	return value(api.Term(a.A)).B
}
