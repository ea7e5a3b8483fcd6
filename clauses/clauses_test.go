package clauses

import (
	"math"
	"math/rand"
	"slices"
	"testing"

	"jurist/api"
)

type lits = []api.Lit

func TestMayNormal(t *testing.T) {
	for _, c := range []lits{{0}, {1, 0}, {api.MaxAtom + 1}, {-api.MaxAtom - 1}, {math.MinInt}, {math.MaxInt}, slices.Repeat(lits{1}, api.MaxClause+1)} {
		if n, e := Normal(c); May(c) || n != nil || e != api.ErrArg {
			t.Error("a clause that is not valid", n, e)
		}
	}
	for _, c := range []struct{ in, want lits }{
		{nil, nil}, {lits{3, -1, 3, 2}, lits{-1, 2, 3}}, {lits{-2, 2, -2}, lits{2, -2}}, {lits{api.MaxAtom, -api.MaxAtom}, lits{api.MaxAtom, -api.MaxAtom}}, {slices.Repeat(lits{-5}, api.MaxClause), lits{-5}}, {lits{-3, 2, -1}, lits{-1, 2, -3}},
	} {
		in := slices.Clone(c.in)
		n, e := Normal(in)
		if !May(c.in) || !slices.Equal(n, c.want) || e != api.OK || !slices.Equal(in, c.in) {
			t.Error("Normal", c.in, n, e)
		}
		again, _ := Normal(n)
		if !slices.Equal(n, again) {
			t.Error("Normal again", again)
		}
	}
	in := lits{1, 2}
	n, _ := Normal(in)
	n[0] = 9
	if in[0] != 1 {
		t.Error("shared memory")
	}
}

func TestSaysNothing(t *testing.T) {
	for _, c := range []lits{{2, -2}, {-7, 3, 0, 7}, {math.MaxInt, -math.MaxInt}} {
		if !SaysNothing(c) {
			t.Error("a tautology", c)
		}
	}
	for _, c := range []lits{nil, {0}, {0, 0}, {1, 2, 1}, {math.MinInt}, {math.MinInt, math.MinInt, math.MaxInt}} {
		if SaysNothing(c) {
			t.Error("no tautology", c)
		}
	}
}

func TestWithinSame(t *testing.T) {
	cases := []struct {
		a, b   lits
		ab, ba bool
	}{
		{nil, nil, true, true}, {nil, lits{1}, true, false}, {lits{1, 1, 2}, lits{2, 1}, true, true}, {lits{1}, lits{-1}, false, false}, {lits{0, 5}, lits{5, 0, math.MinInt}, true, false}, {lits{1, 2}, lits{2, 3}, false, false},
		{slices.Repeat(lits{1}, 6000), lits{1}, true, true},
	}
	for i, c := range cases {
		if Within(c.a, c.b) != c.ab || Within(c.b, c.a) != c.ba || Same(c.a, c.b) != (c.ab && c.ba) || Same(c.b, c.a) != (c.ab && c.ba) {
			t.Error("Within, Same", i)
		}
	}
}

func TestResolve(t *testing.T) {
	for _, c := range []struct {
		a, b lits
		atom api.Lit
		want lits
		e    api.Errno
	}{
		{lits{1, 2}, lits{-1, 3}, 1, lits{2, 3}, api.OK}, {lits{1, 2}, lits{-1, 3}, 2, nil, api.ErrNone}, {lits{-1}, lits{1}, 1, nil, api.ErrNone}, {lits{1}, lits{-1}, 1, nil, api.OK}, {lits{1}, lits{2}, 1, nil, api.ErrNone},
		{lits{1, -1, 2}, lits{-1, 1}, 1, lits{1, -1, 2}, api.OK}, {lits{3, 1, 3}, lits{2, -1, -1, -3}, 1, lits{2, 3, -3}, api.OK},
		{lits{1}, lits{-1}, -1, nil, api.ErrArg}, {lits{1}, lits{-1}, 0, nil, api.ErrArg}, {lits{1}, lits{-1}, api.MaxAtom + 1, nil, api.ErrArg}, {lits{1}, lits{-1}, math.MinInt, nil, api.ErrArg}, {lits{1, 0}, lits{-1}, 1, nil, api.ErrArg}, {lits{1}, lits{-1, api.MaxAtom + 1}, 2, nil, api.ErrArg},
	} {
		if got, e := Resolve(c.a, c.b, c.atom); !slices.Equal(got, c.want) || e != c.e {
			t.Error("Resolve", c, got, e)
		}
	}
	var a, b lits
	for i := range api.MaxClause - 1 {
		a, b = append(a, api.Lit(2+i)), append(b, api.Lit(-2-i))
	}
	got, e := Resolve(append(a, 1), append(b, -1), 1)
	if e != api.OK || len(got) != 2*(api.MaxClause-1) {
		t.Error("a long resolvent", len(got), e)
	}
}

// TestResolventFollows checks that a resolvent holds wherever both clauses do.
func TestResolventFollows(t *testing.T) {
	r := rand.New(rand.NewSource(10))
	some := func() lits {
		c := make(lits, 1+r.Intn(4))
		for i := range c {
			c[i] = api.Lit(1+r.Intn(5)) * api.Lit(1-2*r.Intn(2))
		}
		return c
	}
	holds := func(c lits, bits int) bool {
		return slices.ContainsFunc(c, func(l api.Lit) bool { return (bits>>max(l, -l))&1 == 1 == (l > 0) })
	}
	for range 2000 {
		a, b := some(), some()
		atom := api.Lit(1 + r.Intn(5))
		c, e := Resolve(a, b, atom)
		if e != api.OK {
			continue
		}
		for bits := range 64 {
			if holds(a, bits) && holds(b, bits) && !holds(c, bits) {
				t.Fatal("resolvent", a, b, c)
			}
		}
	}
}

func TestStore(t *testing.T) {
	s := New()
	if s.Len() != 0 || s.Atoms() != 0 {
		t.Error("a new store")
	}
	for i, c := range []lits{{2, 1}, nil, {1, 2, 2}, {-7}} {
		if n, e := s.Add(c); n != i || e != api.OK {
			t.Error("Add", n, e)
		}
	}
	for _, c := range []lits{{0}, {api.MaxAtom + 1}, make(lits, 5001)} {
		if n, e := s.Add(c); n != 0 || e != api.ErrArg {
			t.Error("Add", n, e)
		}
	}
	if s.Len() != 4 || s.Atoms() != 7 || !slices.Equal(s.Clause(2), lits{1, 2}) || len(s.Clause(1)) != 0 || s.Clause(4) != nil || s.Clause(-1) != nil || s.Clause(math.MinInt) != nil {
		t.Error("Clause")
	}
	s.Clause(0)[0] = 9
	if s.Clause(0)[0] != 1 {
		t.Error("Clause gives out a copy")
	}
	for _, c := range []struct {
		c  lits
		i  int
		ok bool
	}{{lits{1, 2}, 0, true}, {lits{2, 1, 1}, 0, true}, {nil, 1, true}, {lits{-7}, 3, true}, {lits{7}, 0, false}, {lits{0}, 0, false}, {lits{-7, api.MaxAtom + 1}, 0, false}, {lits{-7 + 1<<32}, 0, false}, {slices.Repeat(lits{-7}, 6000), 3, true}, {lits{1}, 0, false}} {
		if i, ok := s.Find(c.c); i != c.i || ok != c.ok {
			t.Error("Find", c, i, ok)
		}
	}
	if i, ok := New().Find(nil); i != 0 || ok {
		t.Error("Find in an empty store")
	}
	s.Add(lits{api.MaxAtom})
	s.Add(lits{-api.MaxAtom})
	if i, _ := s.Find(lits{-api.MaxAtom}); i != 5 || s.Atoms() != api.MaxAtom {
		t.Error("the greatest atom", i)
	}
	in := lits{3, 4}
	i, _ := s.Add(in)
	in[0] = 5
	if !slices.Equal(s.Clause(i), lits{3, 4}) {
		t.Error("shared memory")
	}
}

func TestFull(t *testing.T) {
	s := New()
	for range api.MaxClauses {
		if _, e := s.Add(nil); e != api.OK {
			t.Fatal(e)
		}
	}
	if n, e := s.Add(nil); n != 0 || e != api.ErrFull {
		t.Error("full", n, e)
	}
	if _, e := s.Add(lits{0}); e != api.ErrArg {
		t.Error("ErrArg is ahead of ErrFull", e)
	}
}

func TestNilAndZero(t *testing.T) {
	for _, s := range []*Store{nil, {}} {
		if n, e := s.Add(nil); n != 0 || e != api.ErrNil {
			t.Error("Add", e)
		}
		if i, ok := s.Find(nil); i != 0 || ok || s.Len() != 0 || s.Clause(0) != nil || s.Atoms() != 0 {
			t.Error("nil or zero")
		}
	}
}
