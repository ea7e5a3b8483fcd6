package sat

import (
	"math"
	"math/rand"
	"slices"
	"testing"

	"jurist/api"
	"jurist/clauses"
	"jurist/rup"
)

type lits = []api.Lit

func solver(t *testing.T, atoms int, l ...lits) *Solver {
	t.Helper()
	s := New(atoms)
	for _, c := range l {
		if e := s.Add(c); e != api.OK {
			t.Fatal("Add", c, e)
		}
	}
	return s
}

func solve(t *testing.T, s *Solver, assume lits, theory api.Theory, seeds []uint64, budget int64) api.Outcome {
	t.Helper()
	o, e := s.Solve(assume, theory, seeds, budget)
	if e != api.OK {
		t.Fatal("Solve", e)
	}
	switch {
	case o.Answer != api.AnswerSat && o.Model != nil, o.Answer != api.AnswerUnsat && (o.Core != nil || o.Steps != nil), o.Answer != api.AnswerUnknown && (o.Stopped || o.Used > max(budget, 0)), o.Answer == api.AnswerUnknown && !o.Stopped && o.Used <= max(budget, 0):
		t.Fatal("outcome", o)
	}
	return o
}

func TestExamples(t *testing.T) {
	s := solver(t, 2, lits{1, 2}, lits{-1, 2})
	if o := solve(t, s, lits{-2}, nil, nil, 1000); o.Answer != api.AnswerUnsat || !slices.Equal(o.Core, lits{-2}) {
		t.Error("assuming -2", o)
	}
	if o := solve(t, s, nil, nil, nil, 1000); o.Answer != api.AnswerSat || o.Model[1] != 2 {
		t.Error("without assumptions", o)
	}
	for _, budget := range []int64{0, -5, math.MinInt64} {
		if o := solve(t, s, nil, nil, nil, budget); o.Answer != api.AnswerUnknown || o.Stopped || o.Used < 1 {
			t.Error("budget", budget, o)
		}
	}
}

func TestNewGrowAdd(t *testing.T) {
	if New(-3).Atoms() != 0 || New(math.MaxInt).Atoms() != api.MaxSearch || New(7).Atoms() != 7 {
		t.Error("New")
	}
	s := New(3)
	if s.Grow(2) != api.ErrArg || s.Grow(api.MaxSearch+1) != api.ErrArg || s.Grow(-1) != api.ErrArg || s.Atoms() != 3 || s.Grow(3) != api.OK || s.Grow(5) != api.OK || s.Atoms() != 5 || s.Grow(api.MaxSearch) != api.OK {
		t.Error("Grow")
	}
	s = New(3)
	for _, c := range []lits{{0}, {4}, {-4}, {1, math.MinInt}, {math.MaxInt}, slices.Repeat(lits{1}, api.MaxClause+1)} {
		if s.Add(c) != api.ErrArg {
			t.Error("Add", c)
		}
		if o, e := s.Solve(c, nil, nil, 1000); e != api.ErrArg || o.Answer != 0 {
			t.Error("Solve", c, e)
		}
	}
	if s.Add(slices.Repeat(lits{-2}, api.MaxClause)) != api.OK || s.Add(lits{1, -1}) != api.OK {
		t.Error("Add")
	}
	if o := solve(t, s, slices.Repeat(lits{1}, api.MaxClause), nil, nil, 1000); o.Answer != api.AnswerSat || !slices.Contains(o.Model, 1) || !slices.Contains(o.Model, -2) {
		t.Error("many assumptions", o)
	}
	for _, s := range []*Solver{nil, {}} {
		_, e := s.Solve(lits{0}, nil, nil, 0)
		if s.Atoms() != 0 || s.Grow(-1) != api.ErrNil || s.Add(lits{0}) != api.ErrNil || e != api.ErrNil {
			t.Error("nil or zero")
		}
	}
}

func TestOwnMemory(t *testing.T) {
	c := lits{1, 2}
	s := solver(t, 2, c)
	c[0], c[1] = -1, -2
	if o := solve(t, s, lits{1, 2}, nil, nil, 100); o.Answer != api.AnswerSat {
		t.Error("the clause is the solver's own", o)
	}
}

func TestEdges(t *testing.T) {
	if o := solve(t, New(0), nil, nil, nil, 0); o.Answer != api.AnswerSat || o.Used != 0 {
		t.Error("no atoms", o)
	}
	s := solver(t, 1, lits{})
	if o := solve(t, s, lits{1}, nil, nil, 10); o.Answer != api.AnswerUnsat || len(o.Core) != 0 {
		t.Error("the empty clause", o)
	}
	s = solver(t, 3)
	if o := solve(t, s, lits{2, 3, -2}, nil, nil, 10); o.Answer != api.AnswerUnsat || !slices.Equal(o.Core, lits{2, -2}) {
		t.Error("an assumption and its negation", o)
	}
	s = solver(t, 3, lits{-1})
	if o := solve(t, s, lits{2, 1}, nil, nil, 10); o.Answer != api.AnswerUnsat || !slices.Equal(o.Core, lits{1}) {
		t.Error("an assumption that is false at once", o)
	}
}

func TestFirstDecisions(t *testing.T) {
	for _, seed := range []uint64{0, math.MaxUint64, 0b1010, 1 << 63} {
		o := solve(t, New(130), nil, nil, []uint64{seed, 77}, 1000)
		for i, l := range o.Model {
			if want := seed>>((i+1)%64)&1 == 1; (l > 0) != want {
				t.Fatal("the first decision of an atom", seed, l)
			}
		}
	}
}

// holds tells whether an assignment, as bits, satisfies all clauses.
func holds(l []lits, bits int) bool {
	for _, c := range l {
		if !slices.ContainsFunc(c, func(l api.Lit) bool { return bits>>max(l, -l)&1 == 1 == (l > 0) }) {
			return false
		}
	}
	return true
}

func units(l lits) []lits {
	var all []lits
	for _, x := range l {
		all = append(all, lits{x})
	}
	return all
}

func satisfiable(l []lits, atoms int) bool {
	for bits := range 1 << (atoms + 1) {
		if holds(l, bits) {
			return true
		}
	}
	return false
}

func power(n int) int64 {
	p := int64(1)
	for range n {
		p *= 3
	}
	return (p + 1) * int64(8*n+8)
}

// checkModel fails the test unless a model has one literal of each atom, in order, and satisfies clauses.
func checkModel(t *testing.T, model lits, atoms int, l []lits) {
	t.Helper()
	bits := 0
	for i, x := range model {
		if max(x, -x) != api.Lit(i+1) {
			t.Fatal("model", model)
		}
		if x > 0 {
			bits |= 1 << x
		}
	}
	if len(model) != atoms || !holds(l, bits) {
		t.Fatal("model", model)
	}
}

func some(r *rand.Rand, atoms, n int) lits {
	c := make(lits, n)
	for i := range c {
		c[i] = api.Lit(1+r.Intn(atoms)) * api.Lit(1-2*r.Intn(2))
	}
	return c
}

func TestAgainstBruteForce(t *testing.T) {
	r := rand.New(rand.NewSource(15))
	answers := map[api.Answer]int{}
	for range 1500 {
		atoms := 1 + r.Intn(7)
		var l []lits
		for range r.Intn(5 * atoms) {
			l = append(l, some(r, atoms, 1+r.Intn(3)))
		}
		s := solver(t, atoms, l...)
		var row []lits
		for range 4 {
			assume := some(r, atoms, r.Intn(4))
			seeds := []uint64{r.Uint64(), r.Uint64()}[:r.Intn(3)]
			o := solve(t, s, assume, nil, seeds, power(atoms))
			answers[o.Answer]++
			all := append(slices.Clone(l), units(assume)...)
			if want := satisfiable(all, atoms); (o.Answer == api.AnswerSat) != want || o.Answer == api.AnswerUnknown {
				t.Fatal("answer", o, l, assume)
			}
			if o.Answer == api.AnswerSat {
				checkModel(t, o.Model, atoms, all)
				continue
			}
			normal, _ := clauses.Normal(o.Core)
			if !clauses.Within(o.Core, assume) || !slices.Equal(normal, o.Core) || satisfiable(append(slices.Clone(l), units(o.Core)...), atoms) {
				t.Fatal("core", o.Core, assume)
			}
			if len(o.Steps) < len(row) {
				t.Fatal("steps are lost")
			}
			row = nil
			for _, x := range o.Steps {
				if x.Kind != api.StepClause {
					t.Fatal("step", x)
				}
				row = append(row, x.Lits)
			}
			if n, _, e := rup.Row(l, row); n != len(row) || e != api.OK {
				t.Fatal("a clause that does not follow", n, row)
			}
			if ok, _ := rup.Follows(append(append(slices.Clone(l), row...), units(o.Core)...), nil); !ok {
				t.Fatal("the core", o.Core)
			}
		}
	}
	if answers[api.AnswerSat] < 100 || answers[api.AnswerUnsat] < 100 {
		t.Error("answers", answers)
	}
}

// pigeons says that n + 1 pigeons have n holes.
func pigeons(n int) (int, []lits) {
	at := func(p, h int) api.Lit { return api.Lit(1 + p*n + h) }
	var l []lits
	for p := range n + 1 {
		var c lits
		for h := range n {
			c = append(c, at(p, h))
			for q := range p {
				l = append(l, lits{-at(p, h), -at(q, h)})
			}
		}
		l = append(l, c)
	}
	return (n + 1) * n, l
}

func TestBudgetIsExact(t *testing.T) {
	atoms, l := pigeons(4)
	for _, seeds := range [][]uint64{nil, {7}, {3, 99, math.MaxUint64}} {
		full := solve(t, solver(t, atoms, l...), nil, nil, seeds, math.MaxInt64)
		if full.Answer != api.AnswerUnsat {
			t.Fatal("pigeons", full.Answer)
		}
		if o := solve(t, solver(t, atoms, l...), nil, nil, seeds, full.Used); o.Answer != api.AnswerUnsat || o.Used != full.Used || len(o.Steps) != len(full.Steps) {
			t.Error("the budget that it takes", o.Used, full.Used)
		}
		s := solver(t, atoms, l...)
		if o := solve(t, s, nil, nil, seeds, full.Used-1); o.Answer != api.AnswerUnknown {
			t.Error("one step less", o.Answer)
		}
		if o := solve(t, s, nil, nil, seeds, full.Used/2); o.Answer != api.AnswerUnsat {
			t.Error("what was learned remains", o.Answer, o.Used, full.Used)
		}
	}
}

func TestHarder(t *testing.T) {
	atoms, l := pigeons(7)
	o := solve(t, solver(t, atoms, l...), nil, nil, nil, math.MaxInt64)
	var row []lits
	for _, x := range o.Steps {
		row = append(row, x.Lits)
	}
	row = append(row, nil)
	if n, refuted, _ := rup.Row(l, row); n != len(row) || !refuted {
		t.Error("pigeons", n, len(row))
	}
	// A random instance of 3 literals a clause that has a model.
	r := rand.New(rand.NewSource(16))
	model := some(r, 1, 200)
	var big []lits
	for len(big) < 800 {
		c := some(r, 200, 3)
		if slices.ContainsFunc(c, func(l api.Lit) bool { return (l > 0) == (model[max(l, -l)-1] > 0) }) {
			big = append(big, c)
		}
	}
	if o := solve(t, solver(t, 200, big...), nil, nil, []uint64{50}, math.MaxInt64); o.Answer != api.AnswerSat {
		t.Error("a planted model", o.Answer)
	}
}
