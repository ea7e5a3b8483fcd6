package terms

import (
	"math"
	"math/rand"
	"slices"
	"testing"

	"jurist/api"
)

const most = api.MaxNumeral

func must(t *testing.T) func(x api.Term, e api.Errno) api.Term {
	return func(x api.Term, e api.Errno) api.Term {
		t.Helper()
		if e != api.OK {
			t.Fatal("error", e)
		}
		return x
	}
}

func wrong(t *testing.T, what string, want api.Errno) func(x api.Term, e api.Errno) {
	return func(x api.Term, e api.Errno) {
		t.Helper()
		if x != 0 || e != want {
			t.Error(what, x, e, "want", want)
		}
	}
}

func TestFirstTerms(t *testing.T) {
	s := New()
	want := []api.Node{{Op: api.OpTrue}, {Op: api.OpFalse}, {Op: api.OpNum, Sort: api.Int1}}
	for i, w := range want {
		n, e := s.Node(api.Term(i))
		if e != api.OK || n.Op != w.Op || n.Sort != w.Sort || n.Num != 0 || len(n.Args) != 0 {
			t.Error("node", i, n, e)
		}
	}
	if s.Len() != 3 {
		t.Error("Len", s.Len())
	}
}

func TestExamples(t *testing.T) {
	s, ok := New(), must(t)
	if ok(s.Num(0)) != api.Zero || ok(s.Num(5)) != 3 || ok(s.Plus(3, -5)) != api.Zero {
		t.Error("numerals")
	}
	x := ok(s.App(0, api.Int1))
	if x != 4 || ok(s.Plus(x, 2)) != 5 || ok(s.Plus(5, -2)) != 4 {
		t.Error("sums")
	}
	if ok(s.Le(5, x, 1)) != api.False || ok(s.Le(5, x, 2)) != api.True {
		t.Error("Le of one base")
	}
	le := ok(s.Le(5, api.Zero, 1))
	if n, _ := s.Node(le); n.Op != api.OpLe || n.Num != -1 || n.Sort != api.Bool || !slices.Equal(n.Args, []api.Term{4, 2}) {
		t.Error("Le", n)
	}
	if ok(s.And()) != api.True || ok(s.Or()) != api.False || ok(s.And(api.True)) != api.True || ok(s.Or(le)) != le {
		t.Error("And, Or of few")
	}
	wrong(t, "Not", api.ErrSort)(s.Not(x))
}

func TestNodes(t *testing.T) {
	s, ok := New(), must(t)
	p, q, u, v := ok(s.App(0, api.Bool)), ok(s.App(1, api.Bool)), ok(s.App(2, 2)), ok(s.App(3, 2))
	cases := []struct {
		x api.Term
		n api.Node
	}{
		{ok(s.Not(p)), api.Node{Op: api.OpNot, Args: []api.Term{p}}},
		{ok(s.And(p, q, p)), api.Node{Op: api.OpAnd, Args: []api.Term{p, q, p}}},
		{ok(s.Or(q, p)), api.Node{Op: api.OpOr, Args: []api.Term{q, p}}},
		{ok(s.Eq(u, v)), api.Node{Op: api.OpEq, Args: []api.Term{u, v}}},
		{ok(s.Eq(v, u)), api.Node{Op: api.OpEq, Args: []api.Term{v, u}}},
		{ok(s.Eq(u, u)), api.Node{Op: api.OpEq, Args: []api.Term{u, u}}},
		{ok(s.Ite(p, u, v)), api.Node{Op: api.OpIte, Sort: 2, Args: []api.Term{p, u, v}}},
		{ok(s.Ite(p, q, q)), api.Node{Op: api.OpIte, Sort: api.Bool, Args: []api.Term{p, q, q}}},
		{ok(s.App(7, 5, u, p, u)), api.Node{Op: api.OpApp, Fun: 7, Sort: 5, Args: []api.Term{u, p, u}}},
		{ok(s.App(1<<40, 5)), api.Node{Op: api.OpApp, Fun: 1 << 40, Sort: 5}},
		{ok(s.Num(-most)), api.Node{Op: api.OpNum, Sort: api.Int1, Num: -most}},
	}
	for i, c := range cases {
		n, e := s.Node(c.x)
		if e != api.OK || n.Op != c.n.Op || n.Fun != c.n.Fun || n.Sort != c.n.Sort || n.Num != c.n.Num || !slices.Equal(n.Args, c.n.Args) {
			t.Error("node", i, n, e)
		}
		for j := range i {
			if cases[j].x == c.x {
				t.Error("one term for two nodes", i, j)
			}
		}
	}
	length := s.Len()
	if ok(s.And(p, q, p)) != cases[1].x || ok(s.App(7, 5, u, p, u)) != cases[8].x || s.Len() != length {
		t.Error("the same construction is the same term")
	}
}

func TestErrors(t *testing.T) {
	s, ok := New(), must(t)
	p, x, u := ok(s.App(0, api.Bool)), ok(s.App(1, api.Int1)), ok(s.App(2, 2))
	for _, none := range []api.Term{-1, api.Term(s.Len()), math.MaxInt, math.MinInt} {
		wrong(t, "Not", api.ErrNone)(s.Not(none))
		wrong(t, "And", api.ErrNone)(s.And(append(make([]api.Term, 2001), none)...))
		wrong(t, "And", api.ErrNone)(s.And(none))
		wrong(t, "Or", api.ErrNone)(s.Or(x, none))
		wrong(t, "Eq", api.ErrNone)(s.Eq(p, none))
		wrong(t, "Ite", api.ErrNone)(s.Ite(x, none, p))
		wrong(t, "App", api.ErrNone)(s.App(0, 0, none))
		wrong(t, "App", api.ErrArg)(s.App(-1, 0, none))
		wrong(t, "App", api.ErrArg)(s.App(0, -1, none))
		wrong(t, "App", api.ErrNone)(s.App(0, 0, append(make([]api.Term, 21), none)...))
		wrong(t, "Plus", api.ErrNone)(s.Plus(none, math.MaxInt64))
		wrong(t, "Le", api.ErrNone)(s.Le(p, none, math.MaxInt64))
		if n, e := s.Node(none); n.Op != 0 || e != api.ErrNone {
			t.Error("Node", none, e)
		}
		if _, _, e := s.Split(none); e != api.ErrNone {
			t.Error("Split", none, e)
		}
	}
	wrong(t, "And", api.ErrLong)(s.And(slices.Repeat([]api.Term{x}, 2001)...))
	wrong(t, "Or", api.ErrLong)(s.Or(make([]api.Term, 2001)...))
	ok(s.Or(make([]api.Term, 2000)...))
	wrong(t, "And", api.ErrSort)(s.And(x))
	wrong(t, "Or", api.ErrSort)(s.Or(p, u))
	wrong(t, "Eq", api.ErrSort)(s.Eq(p, x))
	wrong(t, "Ite", api.ErrSort)(s.Ite(x, p, p))
	wrong(t, "Ite", api.ErrSort)(s.Ite(p, x, u))
	wrong(t, "App", api.ErrLong)(s.App(0, 0, make([]api.Term, 21)...))
	ok(s.App(0, 0, make([]api.Term, 20)...))
	wrong(t, "Plus", api.ErrSort)(s.Plus(p, math.MaxInt64))
	wrong(t, "Le", api.ErrSort)(s.Le(x, p, math.MaxInt64))
	wrong(t, "Le", api.ErrSort)(s.Le(u, x, 0))
	if b, o, e := s.Split(p); b != 0 || o != 0 || e != api.ErrSort {
		t.Error("Split", e)
	}
}

func TestBounds(t *testing.T) {
	s, ok := New(), must(t)
	x, y := ok(s.App(0, api.Int1)), ok(s.App(1, api.Int1))
	for _, n := range []int64{most + 1, -most - 1, math.MaxInt64, math.MinInt64} {
		wrong(t, "Num", api.ErrOverflow)(s.Num(n))
		wrong(t, "Plus", api.ErrOverflow)(s.Plus(x, n))
		wrong(t, "Le", api.ErrOverflow)(s.Le(x, y, n))
		wrong(t, "Le", api.ErrOverflow)(s.Le(x, x, n))
	}
	high, low := ok(s.Plus(x, most)), ok(s.Plus(y, -most))
	wrong(t, "Plus", api.ErrOverflow)(s.Plus(high, 1))
	wrong(t, "Plus", api.ErrOverflow)(s.Plus(low, -most))
	wrong(t, "Le", api.ErrOverflow)(s.Le(high, low, 0))
	wrong(t, "Le", api.ErrOverflow)(s.Le(high, low, -most))
	wrong(t, "Le", api.ErrOverflow)(s.Le(low, high, most))
	wrong(t, "Le", api.ErrOverflow)(s.Le(ok(s.Num(most)), api.Zero, -1))
	if ok(s.Plus(high, -most)) != x || ok(s.Le(high, ok(s.Plus(y, most)), 3)) != ok(s.Le(x, y, 3)) {
		t.Error("offsets cancel")
	}
	if ok(s.Le(ok(s.Num(most)), ok(s.Num(most)), -1)) != api.False || ok(s.Le(ok(s.Num(7)), ok(s.Num(9)), -2)) != api.True {
		t.Error("Le of numerals")
	}
	length := s.Len()
	if ok(s.Plus(high, -1)) != api.Term(length) {
		t.Error("a sum of a sum")
	}
	if n, _ := s.Node(api.Term(length)); n.Args[0] != x || n.Num != most-1 {
		t.Error("a sum's base", n)
	}
}

func TestFull(t *testing.T) {
	s, ok := New(), must(t)
	p := ok(s.App(0, api.Bool))
	for i := s.Len(); i < api.MaxTerms; i++ {
		ok(s.App(i, api.Int1))
	}
	wrong(t, "App", api.ErrFull)(s.App(api.MaxTerms, api.Int1))
	wrong(t, "Not", api.ErrFull)(s.Not(p))
	wrong(t, "Num", api.ErrFull)(s.Num(1))
	wrong(t, "Not", api.ErrSort)(s.Not(api.Zero))
	if ok(s.App(0, api.Bool)) != p || ok(s.And(p)) != p || ok(s.Num(0)) != api.Zero || s.Len() != api.MaxTerms {
		t.Error("what is there already")
	}
	wrong(t, "Eq", api.ErrFull)(s.Eq(p, p))
}

func TestOwnMemory(t *testing.T) {
	s, ok := New(), must(t)
	p, q := ok(s.App(0, api.Bool)), ok(s.App(1, api.Bool))
	l := []api.Term{p, q}
	and := ok(s.And(l...))
	l[0] = q
	n, _ := s.Node(and)
	n.Args[1] = p
	if n, _ := s.Node(and); !slices.Equal(n.Args, []api.Term{p, q}) || ok(s.And(p, q)) != and {
		t.Error("shared memory")
	}
}

func TestCopy(t *testing.T) {
	s, ok := New(), must(t)
	p := ok(s.App(0, api.Bool))
	y := s.Copy()
	q, r := ok(s.App(1, api.Bool)), ok(y.App(2, api.Bool))
	if q != r || s.Len() != y.Len() {
		t.Error("copies grow apart")
	}
	if n, _ := s.Node(q); n.Fun != 1 {
		t.Error("the store", n)
	}
	and := ok(y.And(p, r))
	if _, e := s.Node(and); e != api.ErrNone {
		t.Error("a term of the copy alone", e)
	}
	if ok(s.Or(p, q)) != and || ok(s.And(p, q)) != and+1 || ok(y.And(p, r)) != and || y.Len() != int(and)+1 {
		t.Error("the copy's lists", s.Len(), y.Len())
	}
}

func TestRebuilt(t *testing.T) {
	s, ok := New(), must(t)
	r := rand.New(rand.NewSource(5))
	for i := range 5 {
		ok(s.App(i, api.Int1))
	}
	for range 300 {
		a := api.Term(r.Intn(s.Len()))
		if n, _ := s.Node(a); n.Sort != api.Int1 {
			continue
		}
		sum := ok(s.Plus(a, r.Int63n(20)-10))
		base, offset, e := s.Split(sum)
		if e != api.OK || ok(s.Plus(base, offset)) != sum {
			t.Fatal("rebuilt", sum)
		}
		ok(s.Le(sum, api.Term(3+r.Intn(3)), 1))
	}
	for i := range s.Len() {
		n, _ := s.Node(api.Term(i))
		for _, a := range n.Args {
			if int(a) >= i {
				t.Fatal("an argument's number", i)
			}
		}
	}
}

func TestNilAndZero(t *testing.T) {
	for _, s := range []*Store{nil, {}} {
		bad := wrong(t, "nil or zero", api.ErrNil)
		bad(s.Not(0))
		bad(s.And())
		bad(s.Or(0))
		bad(s.Eq(0, 0))
		bad(s.Ite(0, 0, 0))
		bad(s.App(-1, 0))
		bad(s.Num(0))
		bad(s.Plus(0, 0))
		bad(s.Le(0, 0, 0))
		_, e1 := s.Node(0)
		_, _, e2 := s.Split(0)
		if e1 != api.ErrNil || e2 != api.ErrNil || s.Len() != 0 || s.Copy() != nil {
			t.Error("nil or zero")
		}
	}
}
