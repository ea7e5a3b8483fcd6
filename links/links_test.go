package links

import (
	"math"
	"math/rand"
	"slices"
	"testing"

	"jurist/api"
)

type lits = []api.Lit

// vertices are true, false, a, b, f(a), f(b), g(a b), g(b a), h, h again, p(a), and a sum.
func vertices() []api.Vertex {
	return []api.Vertex{
		{Fun: api.FunTrue}, {Fun: api.FunFalse}, {Fun: 0, Sort: 2}, {Fun: 1, Sort: 2}, {Fun: 2, Args: []int{2}, Sort: 2}, {Fun: 2, Args: []int{3}, Sort: 2},
		{Fun: 3, Args: []int{2, 3}, Sort: 2}, {Fun: 3, Args: []int{3, 2}, Sort: 2}, {Fun: 4, Sort: 2}, {Fun: 4, Sort: 2}, {Fun: 5, Args: []int{2}}, {Fun: api.FunOther, Args: []int{2}}, {Fun: api.FunOther, Args: []int{3}}, {Fun: 2, Args: []int{2, 3}, Sort: 2},
	}
}

func atoms() []api.Atom {
	return []api.Atom{
		{Kind: api.AtomEq, A: 2, B: 3}, {Kind: api.AtomEq, A: 4, B: 5}, {Kind: api.AtomTrue, A: 10}, {Kind: api.AtomLe, A: 99, B: -1, C: 5}, {Kind: api.AtomName, A: 99}, {Kind: api.AtomEq, A: 8, B: 9}, {Kind: api.AtomEq, A: 6, B: 7}, {Kind: api.AtomEq, A: 11, B: 12}, {Kind: api.AtomEq, A: 2, B: 2},
	}
}

func given(l api.Lit) api.Link          { return api.Link{Kind: api.LinkGiven, Lit: l} }
func same(a int) api.Link               { return api.Link{Kind: api.LinkSame, A: a} }
func turn(i int) api.Link               { return api.Link{Kind: api.LinkTurn, I: i} }
func then(i, j int) api.Link            { return api.Link{Kind: api.LinkThen, I: i, J: j} }
func apply(a, b int, l ...int) api.Link { return api.Link{Kind: api.LinkApply, A: a, B: b, List: l} }
func against(l api.Lit, i int) api.Link { return api.Link{Kind: api.LinkAgainst, Lit: l, I: i} }
func clashes(i int) api.Link            { return api.Link{Kind: api.LinkClash, I: i} }

func TestCorrect(t *testing.T) {
	for _, c := range []struct {
		l    []api.Link
		want lits
	}{
		{[]api.Link{given(1), apply(4, 5, 0), against(-2, 1)}, lits{1, -2}},
		{[]api.Link{given(1), against(-1, 0)}, lits{1, -1}},
		{[]api.Link{given(3), given(-3), turn(0), then(2, 1), clashes(3)}, lits{3, -3}},
		{[]api.Link{apply(8, 9), against(-6, 0)}, lits{-6}},
		{[]api.Link{same(2), against(-9, 0)}, lits{-9}}, {[]api.Link{same(0), same(13), same(2), against(-9, 2)}, lits{-9}},
		{[]api.Link{given(1), turn(0), apply(6, 7, 0, 1), given(1), given(-3), against(-7, 2)}, lits{1, -3, -7}},
		{[]api.Link{given(1), turn(0), then(0, 1), then(2, 0), against(-1, 3)}, lits{1, -1}},
	} {
		if got, e := Check(vertices(), atoms(), c.l); !slices.Equal(got, c.want) || e != api.OK {
			t.Error("Check", c.l, got, e)
		}
	}
}

func TestIncorrect(t *testing.T) {
	for i, l := range [][]api.Link{
		nil, {given(1)}, {given(1), apply(4, 5, 1), against(-2, 1)}, {given(1), apply(4, 5, 0), against(2, 1)}, {given(1), apply(5, 4, 0), against(-2, 1)}, {given(1), turn(0), against(-1, 1)}, {given(1), against(-2, 0)}, {against(-9, 0)}, {clashes(0)},
		{given(-1), against(-1, 0)}, {given(4), given(1), against(-1, 1)}, {given(5), given(1), against(-1, 1)}, {given(0), given(1), against(-1, 1)}, {given(10), given(1), against(-1, 1)}, {given(-10), given(1), against(-1, 1)}, {given(math.MinInt), given(1), against(-1, 1)}, {given(1), against(-3, 0)}, {given(1), against(0, 0)}, {given(1), against(math.MinInt, 0)}, {given(1), against(-10, 0)},
		{given(1), against(-1, 0), against(-1, 0)}, {given(1), clashes(0), against(-1, 0)}, {given(1), against(-1, 0), given(1)}, {given(1), against(-1, 1)}, {given(1), against(-1, -1)}, {given(1), given(1), clashes(0)}, {given(1), {}, against(-1, 0)}, {given(1), {Kind: 8}, against(-1, 0)}, {given(1), {}},
		{same(-1), given(1), against(-1, 1)}, {same(14), given(1), against(-1, 1)}, {given(1), turn(1), against(-1, 0)}, {given(1), turn(-1), against(-1, 0)}, {given(1), turn(2), against(-1, 0)}, {given(1), then(0, 0), against(-1, 0)}, {given(1), then(0, 1), against(-1, 0)}, {given(1), then(2, 0), against(-1, 0)},
		{given(1), apply(4, 5), against(-2, 1)}, {given(1), apply(4, 5, 0, 0), against(-2, 1)}, {given(1), apply(11, 12, 0), against(-8, 1)}, {given(1), apply(4, 13, 0), against(-2, 1)}, {given(1), apply(4, 6, 0), against(-2, 1)}, {given(1), apply(4, 99, 0), against(-2, 1)}, {given(1), apply(-1, 5, 0), against(-2, 1)}, {given(1), apply(6, 7, 0, 0), against(-7, 1)}, {same(2), apply(4, 10, 0), against(-9, 0)}, {given(1), apply(8, 9, 0), against(-6, 1)}, {apply(0, 0), given(1), against(-1, 1)},
		{given(3), given(-3), then(0, 1), clashes(2)}, {given(3), given(-3), turn(1), then(2, 0), clashes(3)}, {given(3), given(-3), turn(1), turn(0), then(3, 1), turn(4), clashes(5)},
	} {
		if got, e := Check(vertices(), atoms(), l); got != nil || e != api.ErrForm {
			t.Error("Check", i, got, e)
		}
	}
}

func TestLimits(t *testing.T) {
	long := slices.Repeat([]api.Link{same(2)}, api.MaxLinks-2)
	ok := append(slices.Clone(long), given(1), against(-1, api.MaxLinks-2))
	if _, e := Check(vertices(), atoms(), ok); e != api.OK {
		t.Error("MaxLinks links", e)
	}
	if got, e := Check(vertices(), atoms(), append(ok, same(99))); got != nil || e != api.ErrLong {
		t.Error("more links", e)
	}
	many := slices.Repeat([]api.Link{given(1)}, api.MaxClause-1)
	if _, e := Check(vertices(), atoms(), append(slices.Clone(many), against(-1, 0))); e != api.OK {
		t.Error("MaxClause literals", e)
	}
	if got, e := Check(vertices(), atoms(), append(slices.Clone(many), given(1), against(-1, 0))); got != nil || e != api.ErrLong {
		t.Error("more literals", e)
	}
	if got, e := Check(vertices(), atoms(), append(slices.Clone(many), given(1), against(-1, -1))); got != nil || e != api.ErrForm {
		t.Error("ErrForm is ahead of too many literals", e)
	}
}

func TestMay(t *testing.T) {
	if !May(vertices(), atoms()) || !May(vertices()[:2], nil) {
		t.Error("valid ones")
	}
	bad := map[string]func(v []api.Vertex, a []api.Atom) ([]api.Vertex, []api.Atom){
		"none": func(v []api.Vertex, a []api.Atom) ([]api.Vertex, []api.Atom) { return nil, nil },
		"one":  func(v []api.Vertex, a []api.Atom) ([]api.Vertex, []api.Atom) { return v[:1], nil },
		"many": func(v []api.Vertex, a []api.Atom) ([]api.Vertex, []api.Atom) {
			return append(v, make([]api.Vertex, api.MaxVertices-13)...), a
		},
		"not true":  func(v []api.Vertex, a []api.Atom) ([]api.Vertex, []api.Atom) { v[0].Fun = 0; return v, a },
		"not false": func(v []api.Vertex, a []api.Atom) ([]api.Vertex, []api.Atom) { v[1].Fun = api.FunTrue; return v, a },
		"true":      func(v []api.Vertex, a []api.Atom) ([]api.Vertex, []api.Atom) { v[5].Fun = api.FunTrue; return v, a },
		"fun -4":    func(v []api.Vertex, a []api.Atom) ([]api.Vertex, []api.Atom) { v[5].Fun = -4; return v, a },
		"arg":       func(v []api.Vertex, a []api.Atom) ([]api.Vertex, []api.Atom) { v[5].Args[0] = 14; return v, a },
		"arg -1":    func(v []api.Vertex, a []api.Atom) ([]api.Vertex, []api.Atom) { v[0].Args = []int{-1}; return v, a },
		"A":         func(v []api.Vertex, a []api.Atom) ([]api.Vertex, []api.Atom) { a[0].A = -1; return v, a },
		"B":         func(v []api.Vertex, a []api.Atom) ([]api.Vertex, []api.Atom) { a[0].B = 14; return v, a },
		"true A":    func(v []api.Vertex, a []api.Atom) ([]api.Vertex, []api.Atom) { a[2].A = 14; return v, a },
	}
	for what, f := range bad {
		v, a := f(vertices(), atoms())
		if May(v, a) {
			t.Error("May", what)
		}
		if got, e := Check(v, a, make([]api.Link, api.MaxLinks+1)); got != nil || e != api.ErrArg {
			t.Error("Check", what, e)
		}
	}
	v := append(vertices(), make([]api.Vertex, api.MaxVertices-14)...)
	if !May(v, atoms()) {
		t.Error("MaxVertices vertices")
	}
	v[3].Args = []int{3, api.MaxVertices - 1, 0}
	if !May(v, []api.Atom{{Kind: api.AtomEq}, {Kind: api.AtomTrue}, {Kind: api.AtomEq, A: api.MaxVertices - 1, B: 1}}) {
		t.Error("atoms may be of any vertices")
	}
	if !May(v, nil) {
		t.Error("arguments may be any vertices")
	}
}

// TestSound builds random certificates and looks for an interpretation in which all their literals hold.
func TestSound(t *testing.T) {
	r := rand.New(rand.NewSource(13))
	v, a := vertices(), atoms()
	accepted := 0
	for range 60000 {
		var l []api.Link
		n := 1 + r.Intn(4)
		for i := range n {
			switch r.Intn(5) {
			case 0, 1:
				l = append(l, given([]api.Lit{1, 2, 3, -3, 6, 7}[r.Intn(6)]))
			case 2:
				l = append(l, turn(r.Intn(i+1)))
			case 3:
				l = append(l, then(r.Intn(i+1), r.Intn(i+1)))
			default:
				l = append(l, apply(4, 5, r.Intn(i+1)))
			}
		}
		l = append(l, []api.Link{against(-api.Lit(1+r.Intn(7)), r.Intn(n)), clashes(r.Intn(n))}[r.Intn(2)])
		got, e := Check(v, a, l)
		if e != api.OK {
			continue
		}
		accepted++
		for range 200 {
			if allHold(v, a, got, interpretation(r, v)) {
				t.Fatal("a certificate whose literals hold", l, got)
			}
		}
	}
	if accepted < 50 {
		t.Error("few certificates", accepted)
	}
}

// interpretation gives values to the vertices so that functions are functions.
func interpretation(r *rand.Rand, v []api.Vertex) []int {
	value := make([]int, len(v))
	value[1] = 1
	table := map[[3]int]int{}
	for i, x := range v {
		if i < 2 {
			continue
		}
		key := [3]int{x.Fun, -1, -1}
		for k, arg := range x.Args {
			key[1+k] = value[arg]
		}
		if old, there := table[key]; there && x.Fun >= 0 {
			value[i] = old
			continue
		}
		value[i] = r.Intn(2)
		table[key] = value[i]
	}
	return value
}

func allHold(v []api.Vertex, a []api.Atom, l lits, value []int) bool {
	for _, x := range l {
		atom := a[max(x, -x)-1]
		is := value[atom.A] == value[atom.B]
		if atom.Kind == api.AtomTrue {
			is = value[atom.A] == value[0]
		}
		if is != (x > 0) {
			return false
		}
	}
	return true
}
