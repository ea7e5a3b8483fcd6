package sat

import (
	"math"
	"math/rand"
	"slices"
	"testing"

	"jurist/api"
	"jurist/clauses"
	"jurist/rup"
)

// mock is a theory that accepts what satisfies its own clauses. It tells of conflicts at Assert, at Imply or at Final, and has more clauses behind splits.
type mock struct {
	t       *testing.T
	atoms   int
	own     []lits // clauses of the theory
	late    bool   // conflicts are told by Final only
	implies bool
	splits  []api.Split
	levels  [][]api.Lit
	told    map[string]bool
	ok      lits // the assignment at FinalOK
	calls   int64
	seen    []lits   // the clauses of all reasons
	pairs   [][]lits // those of all splits
}

func (m *mock) Push() { m.levels = append(m.levels, nil) }

func (m *mock) Pop(n int) {
	if n < 1 || n > len(m.levels) {
		m.t.Error("Pop", n, len(m.levels))
		return
	}
	m.levels = m.levels[:len(m.levels)-n]
}

func (m *mock) all() lits { return slices.Concat(m.levels...) }

func (m *mock) reason(c lits) api.Reason {
	m.seen = append(m.seen, slices.Clone(c))
	return api.Reason{Clause: c, Step: api.Step{Kind: api.StepCycle, Lits: slices.Clone(c)}}
}

func (m *mock) broken() (lits, bool) {
	all := m.all()
	for _, c := range m.own {
		if !slices.ContainsFunc(c, func(l api.Lit) bool { return !slices.Contains(all, -l) }) {
			return slices.Clone(c), true
		}
	}
	return nil, false
}

func (m *mock) Assert(l api.Lit) (api.Reason, bool) {
	m.calls++
	if all := m.all(); slices.Contains(all, -l) || slices.Contains(all, l) {
		m.t.Error("asserted twice, or both ways", l, all)
	}
	if len(m.levels) == 0 {
		m.t.Error("no level")
		return api.Reason{}, true
	}
	last := len(m.levels) - 1
	m.levels[last] = append(m.levels[last], l)
	if c, conflict := m.broken(); conflict && !m.late {
		return m.reason(c), false
	}
	return api.Reason{}, true
}

func (m *mock) Imply() (api.Reason, bool) {
	m.calls++
	all := m.all()
	for i, c := range m.own {
		if !m.implies || m.told[string(rune(i))] {
			continue
		}
		open := slices.DeleteFunc(slices.Clone(c), func(l api.Lit) bool { return slices.Contains(all, -l) })
		if len(open) == 1 && !slices.Contains(all, open[0]) {
			m.told[string(rune(i))] = true
			return m.reason(slices.Clone(c)), true
		}
	}
	return api.Reason{}, false
}

func (m *mock) Final() (api.Final, api.Reason, api.Split) {
	m.calls++
	if all := m.all(); len(all) != m.atoms {
		m.t.Error("Final is called with a full assignment", all, m.atoms)
	}
	if c, conflict := m.broken(); conflict {
		return api.FinalConflict, m.reason(c), api.Split{}
	}
	if len(m.splits) > 0 {
		split := m.splits[0]
		m.splits = m.splits[1:]
		m.atoms += split.Atoms
		m.pairs = append(m.pairs, split.Clauses)
		return api.FinalSplit, api.Reason{}, split
	}
	m.ok = m.all()
	return api.FinalOK, api.Reason{}, api.Split{}
}

func TestWithTheory(t *testing.T) {
	r := rand.New(rand.NewSource(17))
	answers := map[api.Answer]int{}
	for range 1200 {
		atoms, extra := 1+r.Intn(5), r.Intn(3)
		random := func(atoms, n int) []lits {
			var l []lits
			for range r.Intn(n) {
				l = append(l, some(r, atoms, 1+r.Intn(3)))
			}
			return l
		}
		l, own := random(atoms, 8), random(atoms, 8)
		own = slices.DeleteFunc(own, clauses.SaysNothing)
		m := &mock{t: t, atoms: atoms, own: own, late: r.Intn(2) == 0, implies: r.Intn(2) == 0, told: map[string]bool{}}
		all := slices.Concat(l, own)
		total := atoms
		for range extra {
			total++
			split := api.Split{Atoms: 1, Clauses: random(total, 5), Step: api.Step{Kind: api.StepPair, B: total}}
			m.splits = append(m.splits, split)
			all = append(all, split.Clauses...)
		}
		assume := some(r, atoms, r.Intn(3))
		all = append(all, units(assume)...)
		s := solver(t, atoms, l...)
		o := solve(t, s, assume, m, []uint64{r.Uint64()}, power(total)*2)
		answers[o.Answer]++
		if len(m.levels) != 0 {
			t.Fatal("levels are left open", len(m.levels))
		}
		switch o.Answer {
		case api.AnswerSat:
			slices.SortFunc(m.ok, func(a, b api.Lit) int { return int(max(a, -a) - max(b, -b)) })
			if !slices.Equal(m.ok, o.Model) || s.Atoms() != m.atoms {
				t.Fatal("FinalOK was for another assignment", m.ok, o.Model)
			}
			checkModel(t, o.Model, total, all)
		case api.AnswerUnsat:
			if satisfiable(all, total) {
				t.Fatal("unsat", all)
			}
			checkSteps(t, l, m, o)
		default:
			t.Fatal("unknown", o)
		}
	}
	if answers[api.AnswerSat] < 100 || answers[api.AnswerUnsat] < 100 {
		t.Error("answers", answers)
	}
}

// checkSteps replays the steps: each clause of the theory when its step comes, each learned clause by unit propagation.
func checkSteps(t *testing.T, l []lits, m *mock, o api.Outcome) {
	t.Helper()
	db, next, pair := slices.Clone(l), 0, 0
	for _, x := range o.Steps {
		switch x.Kind {
		case api.StepClause:
			if ok, _ := rup.Follows(db, x.Lits); !ok {
				t.Fatal("a clause that does not follow", x.Lits)
			}
			db = append(db, x.Lits)
		case api.StepCycle:
			if !slices.Equal(x.Lits, m.seen[next]) {
				t.Fatal("steps are out of order", x.Lits, m.seen[next])
			}
			db, next = append(db, x.Lits), next+1
		case api.StepPair:
			db, pair = append(db, m.pairs[pair]...), pair+1
		}
	}
	if next != len(m.seen) || pair != len(m.pairs) {
		t.Fatal("steps are missing", next, pair)
	}
	if ok, _ := rup.Follows(append(db, units(o.Core)...), nil); !ok {
		t.Fatal("the core", o.Core)
	}
}

// odd is a theory that does one thing wrong.
type odd struct {
	mock
	assert func() (api.Reason, bool)
	imply  func() (api.Reason, bool)
	final  func() (api.Final, api.Reason, api.Split)
}

func (o *odd) Push()   {}
func (o *odd) Pop(int) {}
func (o *odd) Assert(api.Lit) (api.Reason, bool) {
	if o.assert != nil {
		return o.assert()
	}
	return api.Reason{}, true
}
func (o *odd) Imply() (api.Reason, bool) {
	if o.imply != nil {
		return o.imply()
	}
	return api.Reason{}, false
}
func (o *odd) Final() (api.Final, api.Reason, api.Split) {
	if o.final != nil {
		return o.final()
	}
	return api.FinalOK, api.Reason{}, api.Split{}
}

func TestTheoriesThatStop(t *testing.T) {
	reason := func(l ...api.Lit) api.Reason { return api.Reason{Clause: l} }
	for what, o := range map[string]*odd{
		"stop":     {final: func() (api.Final, api.Reason, api.Split) { return api.FinalStop, api.Reason{}, api.Split{} }},
		"no final": {final: func() (api.Final, api.Reason, api.Split) { return 9, api.Reason{}, api.Split{} }},
		"great split": {final: func() (api.Final, api.Reason, api.Split) {
			return api.FinalSplit, api.Reason{}, api.Split{Atoms: api.MaxSearch}
		}},
		"endless split": {final: func() (api.Final, api.Reason, api.Split) {
			return api.FinalSplit, api.Reason{}, api.Split{Atoms: math.MaxInt}
		}},
		"less than 0": {final: func() (api.Final, api.Reason, api.Split) { return api.FinalSplit, api.Reason{}, api.Split{Atoms: -1} }},
		"split atom": {final: func() (api.Final, api.Reason, api.Split) {
			return api.FinalSplit, api.Reason{}, api.Split{Atoms: 1, Clauses: []lits{{4}}}
		}},
		"literal 0":    {assert: func() (api.Reason, bool) { return reason(0), false }},
		"no atom":      {assert: func() (api.Reason, bool) { return reason(3), false }},
		"no conflict":  {assert: func() (api.Reason, bool) { return reason(1, -1), false }},
		"bad imply":    {imply: func() (api.Reason, bool) { return reason(math.MinInt), true }},
		"bad conflict": {final: func() (api.Final, api.Reason, api.Split) { return api.FinalConflict, reason(1, -1), api.Split{} }},
		"panic":        {imply: func() (api.Reason, bool) { panic("no") }},
	} {
		s := solver(t, 2)
		out := solve(t, s, nil, o, nil, 1000)
		if out.Answer != api.AnswerUnknown || !out.Stopped {
			t.Error(what, out)
		}
		if out := solve(t, s, nil, nil, nil, 1000); out.Answer != api.AnswerSat || len(out.Model) != 2 {
			t.Error("after", what, out)
		}
	}
	endless := &odd{final: func() (api.Final, api.Reason, api.Split) { return api.FinalSplit, api.Reason{}, api.Split{} }}
	if out := solve(t, solver(t, 2), nil, endless, nil, 1000); out.Answer != api.AnswerUnknown || out.Stopped {
		t.Error("splits without end", out)
	}
	if out := solve(t, solver(t, 1), nil, &odd{assert: func() (api.Reason, bool) { return api.Reason{}, false }}, nil, 1000); out.Answer != api.AnswerUnsat {
		t.Error("a theory that nothing satisfies", out)
	}
}

func TestReasonsDoNotRemain(t *testing.T) {
	s := solver(t, 2)
	m := &mock{t: t, atoms: 2, own: []lits{{1}, {-1}}, told: map[string]bool{}}
	if o := solve(t, s, nil, m, nil, 1000); o.Answer != api.AnswerUnsat {
		t.Fatal(o)
	}
	m = &mock{t: t, atoms: 2, own: []lits{{1}, {2}}, implies: true, told: map[string]bool{}}
	s = solver(t, 2)
	if o := solve(t, s, nil, m, nil, 1000); o.Answer != api.AnswerSat || !slices.Equal(o.Model, lits{1, 2}) {
		t.Fatal(o)
	}
	if o := solve(t, s, lits{-1}, nil, nil, 1000); o.Answer != api.AnswerSat {
		t.Error("a theory's clause remained", o)
	}
}

func TestSplitsRemain(t *testing.T) {
	s := solver(t, 1)
	m := &mock{t: t, atoms: 1, splits: []api.Split{{Atoms: 2, Clauses: []lits{{2, 3}, {-2}}}}, told: map[string]bool{}}
	if o := solve(t, s, nil, m, nil, 1000); o.Answer != api.AnswerSat || len(o.Model) != 3 || o.Model[2] != 3 {
		t.Fatal(o)
	}
	if s.Atoms() != 3 {
		t.Error("atoms", s.Atoms())
	}
	if o := solve(t, s, lits{-3}, nil, nil, 1000); o.Answer != api.AnswerUnsat || !slices.Equal(o.Core, lits{-3}) {
		t.Error("the clauses of the split", o)
	}
}

func TestStepsOfReasonsAreCopies(t *testing.T) {
	links := []api.Link{{Kind: api.LinkApply, A: 1, List: []int{5, 6}}, {Kind: api.LinkClash, I: 3}}
	lits := lits{-1}
	theory := &odd{assert: func() (api.Reason, bool) {
		return api.Reason{Clause: lits, Step: api.Step{Kind: api.StepLinks, Links: links}}, false
	}}
	s := solver(t, 1, []api.Lit{1})
	check := func(o api.Outcome) {
		t.Helper()
		if o.Answer != api.AnswerUnsat || o.Steps[0].Links[0].Kind != api.LinkApply || o.Steps[0].Links[0].List[1] != 6 || o.Steps[0].Links[1].I != 3 {
			t.Error("the steps", o)
		}
	}
	o := solve(t, s, nil, theory, nil, 1000)
	check(o)
	o.Steps[0].Links[0].List[1], o.Steps[0].Links[1].I, o.Steps[0].Links[0].Kind = 77, 77, 0
	links[0].List[1], links[1].I, links[0].Kind = 88, 88, 0
	check(solve(t, s, nil, theory, nil, 1000))
}

func TestStepsAreCopies(t *testing.T) {
	atoms, l := pigeons(3)
	s := solver(t, atoms, l...)
	a := solve(t, s, nil, nil, nil, 100000)
	kept := slices.Clone(a.Steps[0].Lits)
	a.Steps[0].Lits[0] = 77
	if b := solve(t, s, nil, nil, nil, 100000); !slices.Equal(b.Steps[0].Lits, kept) {
		t.Error("steps share memory")
	}
}
