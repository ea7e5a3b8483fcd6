package purify

import (
	"math"
	"slices"
	"testing"

	"jurist/api"
	"jurist/terms"
)

func term(t *testing.T) func(x api.Term, e api.Errno) api.Term {
	return func(x api.Term, e api.Errno) api.Term {
		t.Helper()
		if e != api.OK {
			t.Fatal("error", e)
		}
		return x
	}
}

func same(a, b api.Vertex) bool {
	return a.Fun == b.Fun && a.Sort == b.Sort && a.Var == b.Var && a.Off == b.Off && slices.Equal(a.Args, b.Args)
}

var first = []api.Vertex{{Fun: api.FunTrue, Var: -1}, {Fun: api.FunFalse, Var: -1}}

func TestExample(t *testing.T) {
	s, ok := terms.New(), term(t)
	u := ok(s.App(0, 2))
	hu := ok(s.App(1, 0, u))
	f, e := New(s, ok(s.Not(hu)))
	want := append(slices.Clone(first), api.Vertex{Fun: 0, Sort: 2, Var: -1}, api.Vertex{Fun: 1, Args: []int{2}, Var: -1})
	if got := f.Vertices(); e != api.OK || !slices.EqualFunc(got, want, same) {
		t.Error("vertices", got, e)
	}
}

func TestVertices(t *testing.T) {
	s, ok := terms.New(), term(t)
	x, p := ok(s.App(0, 1)), ok(s.App(1, 0))
	q := ok(s.App(2, 0))
	sum := ok(s.Plus(x, -2))
	and := ok(s.And(p, q))
	not := ok(s.Not(and))
	five := ok(s.Num(5))
	ite := ok(s.Ite(not, sum, five))
	g := ok(s.App(3, 2, ite, and, api.True, sum))
	eq := ok(s.Eq(g, g))
	le := ok(s.Le(ite, x, 3))
	k := ok(s.App(4, 0, le))
	f, e := New(s, ok(s.Or(eq, k)))
	if e != api.OK {
		t.Fatal("New", e)
	}
	want := append(slices.Clone(first),
		api.Vertex{Fun: 0, Sort: 1, Var: 1},
		api.Vertex{Fun: 1, Var: -1},
		api.Vertex{Fun: 2, Var: -1},
		api.Vertex{Fun: api.FunOther, Sort: 1, Var: 1, Off: -2},
		api.Vertex{Fun: api.FunOther, Var: -1},
		api.Vertex{Fun: api.FunOther, Sort: 1, Var: 0, Off: 5},
		api.Vertex{Fun: api.FunOther, Sort: 1, Var: 2},
		api.Vertex{Fun: 3, Sort: 2, Args: []int{8, 6, 0, 5}, Var: -1},
		api.Vertex{Fun: api.FunOther, Var: -1},
		api.Vertex{Fun: 4, Args: []int{10}, Var: -1},
	)
	got := f.Vertices()
	if !slices.EqualFunc(got, want, same) {
		t.Error("vertices", got)
	}
	for i, x := range []api.Term{api.True, api.False, x, p, q, sum, and, five, ite, g, le, k} {
		if v, e := f.Vertex(x); v != i || e != api.OK {
			t.Error("Vertex", x, v, e)
		}
		if y, e := f.Term(i); y != x || e != api.OK {
			t.Error("Term", i, y, e)
		}
	}
	for _, x := range []api.Term{not, eq, -1, api.Zero, math.MaxInt} {
		if v, e := f.Vertex(x); v != 0 || e != api.ErrNone {
			t.Error("Vertex of no vertex's term", x, v, e)
		}
	}
	for _, v := range []int{-1, len(want), math.MaxInt} {
		if x, e := f.Term(v); x != 0 || e != api.ErrNone {
			t.Error("Term of no vertex", v, x, e)
		}
	}
	if f.Space().Len() != 3 {
		t.Error("Space", f.Space().Len())
	}
	got[9].Args[0] = 77
	if f.Vertices()[9].Args[0] != 8 {
		t.Error("Vertices gives out a copy")
	}
}

func TestTruthAsArguments(t *testing.T) {
	s, ok := terms.New(), term(t)
	f, e := New(s, ok(s.App(0, 0, api.False, api.True)))
	want := append(slices.Clone(first), api.Vertex{Fun: 0, Args: []int{1, 0}, Var: -1})
	if got := f.Vertices(); e != api.OK || !slices.EqualFunc(got, want, same) {
		t.Error("vertices", got, e)
	}
}

func TestErrors(t *testing.T) {
	if f, e := New(nil); f != nil || e != api.ErrNil {
		t.Error("no store", e)
	}
	if f, e := New(terms.New(), 1, 3); f != nil || e != api.ErrNone {
		t.Error("no term", e)
	}
	f, e := New(terms.New())
	if v, _ := f.Vertex(api.False); e != api.OK || !slices.EqualFunc(f.Vertices(), first, same) || v != 1 {
		t.Error("the frame of nothing")
	}
	for _, none := range []*Frame{nil, {}} {
		_, e1 := none.Vertex(0)
		_, e2 := none.Term(0)
		if e1 != api.ErrNil || e2 != api.ErrNil || none.Vertices() != nil || none.Space() != nil {
			t.Error("nil or zero")
		}
	}
}
