package cycles

import (
	"math"
	"math/big"
	"math/rand"
	"slices"
	"testing"

	"jurist/api"
)

type lits = []api.Lit

func le(x, y int, c int64) api.Atom { return api.Atom{Kind: api.AtomLe, A: x, B: y, C: c} }

func TestOf(t *testing.T) {
	a := []api.Atom{le(0, 1, 2), le(1, 0, -3), {Kind: api.AtomEq, A: 1}, {}, le(-5, 99, math.MinInt64), le(2, 2, math.MaxInt64)}
	for _, c := range []struct {
		l    api.Lit
		want api.Edge
		e    api.Errno
	}{
		{1, api.Edge{X: 0, Y: 1, C: 2}, api.OK}, {-1, api.Edge{X: 1, Y: 0, C: -3}, api.OK}, {2, api.Edge{X: 1, Y: 0, C: -3}, api.OK}, {-2, api.Edge{X: 0, Y: 1, C: 2}, api.OK}, {5, api.Edge{X: -5, Y: 99, C: math.MinInt64}, api.OK}, {-5, api.Edge{X: 99, Y: -5, C: math.MaxInt64}, api.OK}, {-6, api.Edge{X: 2, Y: 2, C: math.MinInt64}, api.OK},
		{0, api.Edge{}, api.ErrArg}, {3, api.Edge{}, api.ErrArg}, {-3, api.Edge{}, api.ErrArg}, {4, api.Edge{}, api.ErrArg}, {7, api.Edge{}, api.ErrArg}, {-7, api.Edge{}, api.ErrArg}, {math.MinInt, api.Edge{}, api.ErrArg}, {math.MaxInt, api.Edge{}, api.ErrArg},
	} {
		if got, e := Of(a, c.l); got != c.want || e != c.e {
			t.Error("Of", c.l, got, e)
		}
	}
}

func TestSum(t *testing.T) {
	ring := func(c ...int64) []api.Edge {
		var l []api.Edge
		for i, n := range c {
			l = append(l, api.Edge{X: i, Y: (i + 1) % len(c), C: n})
		}
		return l
	}
	for _, c := range []struct {
		l    []api.Edge
		sign int
		e    api.Errno
	}{
		{ring(2, -3), -1, api.OK}, {ring(2, -2), 0, api.OK}, {ring(2, -1), 1, api.OK}, {ring(-1), -1, api.OK}, {ring(0), 0, api.OK}, {ring(math.MinInt64, math.MinInt64), -1, api.OK}, {ring(math.MaxInt64, math.MaxInt64, math.MinInt64, math.MinInt64, 1), -1, api.OK}, {ring(math.MaxInt64, math.MaxInt64, math.MinInt64, math.MinInt64, 2), 0, api.OK}, {ring(math.MaxInt64, math.MaxInt64, math.MaxInt64), 1, api.OK},
		{nil, 0, api.ErrForm}, {[]api.Edge{{X: 0, Y: 1, C: -5}}, 0, api.ErrForm}, {[]api.Edge{{X: 0, Y: 1, C: 2}, {X: 0, Y: 1, C: -3}}, 0, api.ErrForm}, {[]api.Edge{{X: 1, Y: 0, C: 2}, {X: 2, Y: 1, C: -3}, {X: 0, Y: 2, C: 0}}, 0, api.ErrForm}, {[]api.Edge{{X: 0, Y: 1}, {X: 1, Y: 2}}, 0, api.ErrForm},
		{ring(make([]int64, api.MaxClause)...), 0, api.OK}, {ring(make([]int64, api.MaxClause+1)...), 0, api.ErrLong}, {make([]api.Edge, api.MaxClause), 0, api.OK},
	} {
		if sign, e := Sum(c.l); sign != c.sign || e != c.e {
			t.Error("Sum", len(c.l), sign, e, "want", c.sign, c.e)
		}
	}
}

func TestCheck(t *testing.T) {
	a := []api.Atom{le(0, 1, 2), le(1, 0, -3), {Kind: api.AtomEq}, le(2, 2, -1), le(1, 2, -1), le(2, 0, -2)}
	for _, c := range []struct {
		l, want lits
		e       api.Errno
	}{
		{lits{1, 2}, lits{1, 2}, api.OK}, {lits{2, 1}, lits{1, 2}, api.OK}, {lits{-1, 1}, lits{1, -1}, api.OK}, {lits{4}, lits{4}, api.OK}, {lits{6, 1, 5}, lits{1, 5, 6}, api.OK}, {lits{1, 2, 1, 2}, lits{1, 2}, api.OK},
		{lits{1}, nil, api.ErrForm}, {nil, nil, api.ErrForm}, {lits{-4}, nil, api.ErrForm}, {lits{1, -2}, nil, api.ErrForm}, {lits{5, 1, 6}, nil, api.ErrForm}, {lits{-2, -1}, lits{-1, -2}, api.OK}, {lits{1, 3}, nil, api.ErrArg}, {lits{1, 0}, nil, api.ErrArg}, {lits{1, 7}, nil, api.ErrArg}, {slices.Repeat(lits{4}, api.MaxClause), lits{4}, api.OK}, {slices.Repeat(lits{0}, api.MaxClause+1), nil, api.ErrLong},
	} {
		in := slices.Clone(c.l)
		if got, e := Check(a, c.l); !slices.Equal(got, c.want) || e != c.e || !slices.Equal(in, c.l) {
			t.Error("Check", len(c.l), got, e)
		}
	}
}

// TestSound checks that no values satisfy the literals of a certificate, and that the reversed edge is the negation.
func TestSound(t *testing.T) {
	r := rand.New(rand.NewSource(14))
	accepted := 0
	for range 20000 {
		a := make([]api.Atom, 4)
		for i := range a {
			a[i] = le(r.Intn(3), r.Intn(3), r.Int63n(9)-4)
		}
		l := make(lits, 1+r.Intn(3))
		for i := range l {
			l[i] = api.Lit(1+r.Intn(4)) * api.Lit(1-2*r.Intn(2))
		}
		got, e := Check(a, l)
		for range 20 {
			x := []int64{r.Int63n(9) - 4, r.Int63n(9) - 4, r.Int63n(9) - 4}
			all := true
			for _, k := range l {
				edge, _ := Of(a, k)
				back, _ := Of(a, -k)
				holds := x[edge.X]-x[edge.Y] <= edge.C
				if holds == (x[back.X]-x[back.Y] <= back.C) {
					t.Fatal("an edge and its reverse", edge, back)
				}
				all = all && holds
			}
			if all && e == api.OK {
				t.Fatal("a certificate that holds", a, l, got)
			}
		}
		if e == api.OK {
			accepted++
		}
	}
	if accepted < 100 {
		t.Error("few certificates", accepted)
	}
	for range 200 {
		var l []api.Edge
		sum := new(big.Int)
		for range 1 + r.Intn(6) {
			c := int64(r.Uint64()) >> uint(r.Intn(4))
			l = append(l, api.Edge{C: c})
			sum.Add(sum, big.NewInt(c))
		}
		if sign, e := Sum(l); sign != sum.Sign() || e != api.OK {
			t.Fatal("Sum", l, sign)
		}
	}
}
