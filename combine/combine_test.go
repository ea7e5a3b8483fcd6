package combine

import (
	"math"
	"math/rand"
	"slices"
	"testing"

	"jurist/api"
	"jurist/clauses"
	"jurist/digits"
	"jurist/gates"
	"jurist/rup"
	"jurist/sat"
	"jurist/terms"
)

type lits = []api.Lit

func eq(v, w int) api.Atom          { return api.Atom{Kind: api.AtomEq, A: v, B: w} }
func is(v int) api.Atom             { return api.Atom{Kind: api.AtomTrue, A: v} }
func le(x, y int, c int64) api.Atom { return api.Atom{Kind: api.AtomLe, A: x, B: y, C: c} }

// example is the chapter's: true, false, x, y, f(x), f(y).
func example() api.Problem {
	return api.Problem{
		Vertices: []api.Vertex{{Fun: api.FunTrue, Var: -1}, {Fun: api.FunFalse, Var: -1}, {Fun: 0, Sort: 1, Var: 1}, {Fun: 1, Sort: 1, Var: 2}, {Fun: 2, Args: []int{2}, Sort: 2, Var: -1}, {Fun: 2, Args: []int{3}, Sort: 2, Var: -1}},
		Vars:     3,
		Atoms:    []api.Atom{eq(4, 5), le(1, 2, 0), le(2, 1, 0)},
	}
}

// pairing adds pairs to a problem as layer 13 does.
func pairing(p *api.Problem, calls *[][2]int) func(v, w int) ([]api.Atom, [][]api.Lit, api.Errno) {
	return func(v, w int) ([]api.Atom, [][]api.Lit, api.Errno) {
		*calls = append(*calls, [2]int{v, w})
		var made []api.Atom
		find := func(a api.Atom) api.Lit {
			i := slices.Index(p.Atoms, a)
			if i < 0 {
				i = len(p.Atoms)
				p.Atoms = append(p.Atoms, a)
				made = append(made, a)
			}
			return api.Lit(i + 1)
		}
		if slices.Contains(p.Atoms, eq(min(v, w), max(v, w))) {
			return nil, nil, api.OK
		}
		e := find(eq(min(v, w), max(v, w)))
		x, y := p.Vertices[min(v, w)], p.Vertices[max(v, w)]
		a, b := find(le(x.Var, y.Var, y.Off-x.Off)), find(le(y.Var, x.Var, x.Off-y.Off))
		return made, []lits{{-e, a}, {-e, b}, {e, -a, -b}}, api.OK
	}
}

func theory(t *testing.T, p api.Problem) (*Theory, *[][2]int) {
	t.Helper()
	calls := new([][2]int)
	own := p
	own.Atoms = slices.Clone(p.Atoms)
	x, e := New(p, pairing(&own, calls))
	if e != api.OK {
		t.Fatal("New", e)
	}
	return x, calls
}

// assert asserts literals that are no conflict.
func assert(t *testing.T, x *Theory, l ...api.Lit) {
	t.Helper()
	for _, k := range l {
		if r, ok := x.Assert(k); !ok || r.Clause != nil || r.Step.Kind != 0 {
			t.Fatal("Assert", k, r, ok)
		}
	}
}

func TestExample(t *testing.T) {
	x, calls := theory(t, example())
	var _ api.Theory = x
	if f, e := x.Full(); e != api.ErrNone || f.Class != nil {
		t.Error("Full ahead of Final", e)
	}
	x.Push()
	assert(t, x, -1, 2, 3)
	if r, ok := x.Imply(); ok || r.Clause != nil {
		t.Error("Imply", r)
	}
	f, r, s := x.Final()
	if f != api.FinalSplit || r.Clause != nil || s.Atoms != 1 || len(s.Clauses) != 3 || s.Step.Kind != api.StepPair || s.Step.A != 2 || s.Step.B != 3 || len(*calls) != 1 {
		t.Fatal("Final", f, s, *calls)
	}
	assert(t, x, -4)
	if f, _, _ := x.Final(); f != api.FinalStop {
		t.Error("the pair is there already", f)
	}
	r, ok := x.Assert(4)
	if ok || r.Step.Kind != api.StepLinks {
		t.Error("x is y, but f(x) is not f(y)", r)
	}
	if f, _, _ := x.Final(); f == api.FinalOK {
		t.Error("Final in a conflict", f)
	}
	x.Pop(1)
	assert(t, x, 1, 2, 3)
	if f, _, _ := x.Final(); f != api.FinalOK {
		t.Error("Final", f)
	}
	full, e := x.Full()
	if e != api.OK || !slices.Equal(full.Class, []int{0, 1, 2, 3, 4, 4}) || len(full.Vars) != 3 || full.Vars[1] != full.Vars[2] {
		t.Error("Full", full, e)
	}
	full.Class[0] = 9
	if again, _ := x.Full(); again.Class[0] != 0 {
		t.Error("Full gives out a copy")
	}
}

func TestConflicts(t *testing.T) {
	p := example()
	p.Atoms = append(p.Atoms, eq(2, 3), le(1, 0, -1), le(0, 1, 0))
	x, _ := theory(t, p)
	x.Push()
	assert(t, x, 4)
	x.Push()
	check := func(what string, r api.Reason, ok bool, want lits, kind api.StepKind) {
		t.Helper()
		c, e := Clause(p, r.Step)
		if ok || e != api.OK || !slices.Equal(r.Clause, want) || !slices.Equal(c, want) || r.Step.Kind != kind {
			t.Error(what, r, c, e)
		}
	}
	r, ok := x.Assert(-1)
	check("congruence", r, ok, lits{1, -4}, api.StepLinks)
	r.Clause[0], r.Step.Links[0] = 77, api.Link{}
	r, ok = x.Assert(-1)
	check("again", r, ok, lits{1, -4}, api.StepLinks)
	r, ok = x.Assert(99)
	check("a number that is no atom's", r, ok, lits{1, -4}, api.StepLinks)
	r.Clause[0], r.Step.Links[0].Kind = 77, 0
	r, ok = x.Assert(99)
	check("the reason is the caller's own", r, ok, lits{1, -4}, api.StepLinks)
	x.Pop(1)
	assert(t, x, 5)
	x.Push()
	r, ok = x.Assert(6)
	check("differences", r, ok, lits{-5, -6}, api.StepCycle)
	if _, ok := x.Imply(); ok {
		t.Error("Imply in a conflict")
	}
	x.Push()
	r, ok = x.Assert(-1)
	check("congruence comes first", r, ok, lits{1, -4}, api.StepLinks)
	x.Pop(1)
	r, ok = x.Assert(0)
	check("the conflict below", r, ok, lits{-5, -6}, api.StepCycle)
	r.Step.Lits[0] = 77
	r, ok = x.Assert(0)
	check("the reason is the caller's own", r, ok, lits{-5, -6}, api.StepCycle)
	x.Pop(1)
	if _, ok := x.Assert(0); !ok {
		t.Error("after Pop")
	}
	r, ok = x.Imply()
	check("Imply", r, !ok, lits{1, -4}, api.StepLinks)
	assert(t, x, 1, 1)
	if _, ok := x.Imply(); ok {
		t.Error("Imply of what is asserted")
	}
	x.Push()
	assert(t, x, 1)
	x.Pop(1)
	if _, ok := x.Imply(); ok {
		t.Error("it is still asserted")
	}
	x.Pop(7)
	x.Pop(-1)
	x.Pop(math.MinInt)
	if _, ok := x.Imply(); ok {
		t.Error("no level was closed")
	}
}

func TestFirstImplied(t *testing.T) {
	p := example()
	p.Atoms = []api.Atom{eq(2, 3), eq(4, 5), is(4), eq(4, 4), eq(3, 2), eq(0, 4)}
	x, _ := theory(t, p)
	x.Push()
	if r, ok := x.Imply(); !ok || !slices.Equal(r.Clause, lits{4}) {
		t.Error("an equality of a vertex with itself", r)
	}
	assert(t, x, 4, 1, 3)
	for _, want := range []lits{{-1, 2}, {-1, 5}, {-3, 6}} {
		r, ok := x.Imply()
		if c, e := Clause(p, r.Step); !ok || !slices.Equal(r.Clause, want) || e != api.OK || !slices.Equal(c, want) {
			t.Error("Imply", r, want, e)
		}
		assert(t, x, want[1])
	}
	if _, ok := x.Imply(); ok {
		t.Error("nothing is left")
	}
}

func TestImplyAgain(t *testing.T) {
	p := example()
	p.Atoms = []api.Atom{eq(2, 3), eq(4, 5), is(4), is(5), eq(4, 0), le(1, 2, 0)}
	x, _ := theory(t, p)
	none := func(what string) {
		t.Helper()
		for range 2 {
			if r, ok := x.Imply(); ok || r.Clause != nil {
				t.Error(what, r)
			}
		}
	}
	one := func(what string, want ...api.Lit) {
		t.Helper()
		for range 2 {
			if r, ok := x.Imply(); !ok || !slices.Equal(r.Clause, want) {
				t.Error(what, r, ok)
			}
		}
	}
	none("at first")
	x.Push()
	assert(t, x, 6)
	none("after a difference")
	assert(t, x, 1)
	one("after an equality", -1, 2)
	x.Push()
	assert(t, x, 2)
	none("after what was implied")
	x.Pop(1)
	one("after Pop", -1, 2)
	assert(t, x, 2)
	none("after what was implied")
	assert(t, x, 3)
	one("after a truth", -3, 5)
	x.Pop(1)
	none("at the end")
	x.Push()
	assert(t, x, -3, -4)
	one("after two falsehoods", 2, 3, 4)
	x.Pop(1)
	assert(t, x, -1)
	none("after an inequality")
}

func TestOwnMemory(t *testing.T) {
	p := example()
	p.Vertices = append(p.Vertices, api.Vertex{Fun: 2, Args: []int{3}, Sort: 2, Var: -1})
	x, _ := theory(t, p)
	p.Vertices[4].Args[0], p.Vertices[5].Args[0], p.Vertices[2].Var, p.Vertices[2].Off, p.Vertices[3].Sort = 3, 0, 0, 77, 2
	p.Atoms[0] = le(0, 1, 7)
	assert(t, x, -1, 2, 3)
	if f, _, s := x.Final(); f != api.FinalSplit || s.Step.A != 2 || s.Step.B != 3 {
		t.Error("vertices and atoms are the theory's own", f, s)
	}
	x, _ = theory(t, example())
	assert(t, x, 1, 2, 3)
	x.Final()
	full, _ := x.Full()
	full.Vars[1].High, full.Class[2] = 99, 99
	if again, _ := x.Full(); again.Vars[1].High == 99 || again.Class[2] == 99 {
		t.Error("Full gives out a copy")
	}
}

func TestPairsWithoutClauses(t *testing.T) {
	// x and y are one without clauses that say so of their integers; that f(y) and f(z) agree is the pair to look at.
	p := example()
	p.Vertices = append(p.Vertices, api.Vertex{Fun: 3, Sort: 1, Var: 3}, api.Vertex{Fun: 2, Args: []int{6}, Sort: 2, Var: -1})
	p.Vars = 4
	p.Atoms = []api.Atom{eq(3, 2), eq(5, 7)}
	x, calls := theory(t, p)
	assert(t, x, 1, -2)
	if f, _, s := x.Final(); f != api.FinalSplit || len(*calls) != 1 || s.Step.B != 6 {
		t.Error("Final", f, s, *calls)
	}
}

func TestClassPair(t *testing.T) {
	p := example()
	p.Vertices = append(p.Vertices, api.Vertex{Fun: api.FunOther, Sort: 1, Var: 2, Off: 5})
	p.Atoms = []api.Atom{eq(2, 6)}
	x, calls := theory(t, p)
	assert(t, x, 1)
	f, _, s := x.Final()
	if f != api.FinalStop || len(*calls) != 1 || (*calls)[0] != [2]int{2, 6} {
		t.Error("one class, two values, but the atom is there", f, s, *calls)
	}
	p.Atoms = []api.Atom{eq(2, 3), eq(3, 6)}
	x, calls = theory(t, p)
	assert(t, x, 1, 2)
	f, _, s = x.Final()
	if f != api.FinalSplit || len(*calls) != 1 || s.Step.A != 2 || s.Step.B != 6 || s.Atoms != 3 {
		t.Error("one class, two values", f, s, *calls)
	}
}

func TestEqualByChance(t *testing.T) {
	// Nothing says that x is y, so that f(x) and f(y) may differ without a pair.
	for _, more := range [][]api.Atom{nil, {le(1, 0, 3), le(0, 1, 0), le(2, 0, 3), le(0, 2, 0)}, {le(2, 1, -5), le(1, 2, 99)}} {
		p := example()
		p.Atoms = append([]api.Atom{eq(4, 5)}, more...)
		x, calls := theory(t, p)
		model := lits{-1}
		for i := range more {
			model = append(model, api.Lit(2+i))
		}
		assert(t, x, model...)
		f, _, _ := x.Final()
		full, e := x.Full()
		if f != api.FinalOK || e != api.OK || !correct(p, full, model) || len(*calls) != 0 {
			t.Error("Final", f, full, *calls)
		}
	}
	// Within the bounds 0 and 0 both are the same.
	p := example()
	p.Atoms = []api.Atom{eq(4, 5), le(1, 0, 0), le(0, 1, 0), le(2, 0, 0), le(0, 2, 0)}
	x, _ := theory(t, p)
	assert(t, x, -1, 2, 3, 4, 5)
	if f, _, s := x.Final(); f != api.FinalSplit || s.Step.A != 2 || s.Step.B != 3 {
		t.Error("Final", f, s)
	}
}

func TestPairingsThatFail(t *testing.T) {
	for what, pair := range map[string]func(v, w int) ([]api.Atom, [][]api.Lit, api.Errno){
		"error":   func(v, w int) ([]api.Atom, [][]api.Lit, api.Errno) { return []api.Atom{eq(v, w)}, nil, api.ErrFull },
		"nothing": func(v, w int) ([]api.Atom, [][]api.Lit, api.Errno) { return nil, nil, api.OK },
		"vertex":  func(v, w int) ([]api.Atom, [][]api.Lit, api.Errno) { return []api.Atom{eq(v, 99)}, nil, api.OK },
		"var": func(v, w int) ([]api.Atom, [][]api.Lit, api.Errno) {
			return []api.Atom{eq(v, w), le(0, 3, 1)}, nil, api.OK
		},
		"panic": func(v, w int) ([]api.Atom, [][]api.Lit, api.Errno) { panic("no") },
	} {
		x, e := New(example(), pair)
		if e != api.OK {
			t.Fatal(e)
		}
		assert(t, x, -1, 2, 3)
		if f, r, s := x.Final(); f != api.FinalStop || r.Clause != nil || s.Atoms != 0 || s.Clauses != nil {
			t.Error(what, f, s)
		}
	}
}

func TestErrors(t *testing.T) {
	none := func(v, w int) ([]api.Atom, [][]api.Lit, api.Errno) { return nil, nil, api.OK }
	for what, f := range map[string]func(p *api.Problem){
		"no vars":     func(p *api.Problem) { p.Vars = 0 },
		"few vars":    func(p *api.Problem) { p.Vars = 2 },
		"le":          func(p *api.Problem) { p.Atoms[1].A = 3 },
		"le -1":       func(p *api.Problem) { p.Atoms[1].B = -1 },
		"eq":          func(p *api.Problem) { p.Atoms[0].B = 6 },
		"no var":      func(p *api.Problem) { p.Vertices[2].Var = -1 },
		"var of U":    func(p *api.Problem) { p.Vertices[4].Var = 0 },
		"no true":     func(p *api.Problem) { p.Vertices[0].Fun = 0 },
		"no int":      func(p *api.Problem) { p.Vertices[2].Sort = 2 },
		"more int":    func(p *api.Problem) { p.Vertices[5].Sort = 1 },
		"few":         func(p *api.Problem) { p.Vertices = p.Vertices[:1] },
		"an argument": func(p *api.Problem) { p.Vertices[4].Args[0] = 6 },
	} {
		p := example()
		f(&p)
		if x, e := New(p, none); x != nil || e != api.ErrArg {
			t.Error("New", what, e)
		}
		if c, e := Clause(p, api.Step{Kind: api.StepCycle}); c != nil || e != api.ErrArg {
			t.Error("Clause", what, e)
		}
	}
	if x, e := New(example(), nil); x != nil || e != api.ErrArg {
		t.Error("no pairing", e)
	}
	p := example()
	p.Vars = math.MaxInt
	if x, e := New(p, none); x != nil || e != api.ErrArg {
		t.Error("too many variables", e)
	}
	p = example()
	p.Vertices[4].Var = 77
	if _, e := New(p, none); e != api.OK {
		t.Error("what is no variable", e)
	}
	for _, s := range []struct {
		s api.Step
		e api.Errno
	}{{api.Step{}, api.ErrArg}, {api.Step{Kind: api.StepClause}, api.ErrArg}, {api.Step{Kind: api.StepPair, A: 2, B: 3}, api.ErrArg}, {api.Step{Kind: api.StepLinks}, api.ErrForm}, {api.Step{Kind: api.StepCycle}, api.ErrForm}, {api.Step{Kind: api.StepCycle, Lits: lits{1}}, api.ErrForm}, {api.Step{Kind: api.StepCycle, Lits: lits{2, 3}}, api.ErrForm}, {api.Step{Kind: api.StepCycle, Lits: lits{2, -2}}, api.OK}} {
		if c, e := Clause(example(), s.s); e != s.e || e != api.OK && c != nil {
			t.Error("Clause", s.s, c, e)
		}
	}
	for _, x := range []*Theory{nil, {}} {
		x.Push()
		x.Pop(1)
		r, ok := x.Assert(1)
		q, implied := x.Imply()
		f, u, s := x.Final()
		_, e := x.Full()
		if !ok || r.Clause != nil || implied || q.Clause != nil || f != api.FinalStop || u.Clause != nil || s.Atoms != 0 || e != api.ErrNil {
			t.Error("nil or zero")
		}
	}
}

// correct tells whether an arrangement is correct for literals, by the words of the chapter.
func correct(p api.Problem, f api.Full, model lits) bool {
	value := func(v int) api.Int {
		return digits.Plus(f.Vars[p.Vertices[v].Var], digits.Of(p.Vertices[v].Off))
	}
	if f.Class[0] == f.Class[1] || f.Vars[0] != (api.Int{}) || len(f.Class) != len(p.Vertices) || len(f.Vars) != p.Vars {
		return false
	}
	for v, x := range p.Vertices {
		if f.Class[v] > v || f.Class[f.Class[v]] != f.Class[v] {
			return false
		}
		for w, y := range p.Vertices[:v] {
			if x.Sort == 1 && y.Sort == 1 && f.Class[v] == f.Class[w] && value(v) != value(w) {
				return false
			}
			if x.Fun < 0 || x.Fun != y.Fun || len(x.Args) != len(y.Args) {
				continue
			}
			agree := true
			for k := range x.Args {
				a, b := x.Args[k], y.Args[k]
				if p.Vertices[a].Sort == 1 {
					agree = agree && value(a) == value(b)
				} else {
					agree = agree && f.Class[a] == f.Class[b]
				}
			}
			if agree && f.Class[v] != f.Class[w] {
				return false
			}
		}
	}
	for _, l := range model {
		holds := true
		switch a := p.Atoms[max(l, -l)-1]; a.Kind {
		case api.AtomEq:
			holds = (f.Class[a.A] == f.Class[a.B]) == (l > 0)
		case api.AtomTrue:
			holds = l > 0 && f.Class[a.A] == f.Class[0] || l < 0 && f.Class[a.A] == f.Class[1]
		case api.AtomLe:
			holds = digits.Less(digits.Of(a.C), digits.Minus(f.Vars[a.A], f.Vars[a.B])) == (l < 0)
		}
		if !holds {
			return false
		}
	}
	return true
}

// formula makes random assertions over x, y, z of Int, f from Int to Int, u, v of U, g from U and Int to U, h from Int to Bool.
func formula(r *rand.Rand, s *terms.Store) []api.Term {
	var ints, us, bools []api.Term
	add := func(to *[]api.Term) func(x api.Term, e api.Errno) {
		return func(x api.Term, e api.Errno) {
			if e == api.OK {
				*to = append(*to, x)
			}
		}
	}
	pick := func(l []api.Term) api.Term { return l[r.Intn(len(l))] }
	for i := range 3 {
		add(&ints)(s.App(i, 1))
	}
	add(&us)(s.App(3, 2))
	add(&us)(s.App(4, 2))
	add(&bools)(s.App(5, 0))
	for range 14 {
		switch r.Intn(9) {
		case 0:
			add(&ints)(s.App(6, 1, pick(ints)))
		case 1:
			add(&us)(s.App(7, 2, pick(us), pick(ints)))
		case 2:
			add(&bools)(s.App(8, 0, pick(ints)))
		case 3:
			add(&ints)(s.Plus(pick(ints), r.Int63n(5)-2))
		case 4:
			add(&ints)(s.Ite(pick(bools), pick(ints), pick(ints)))
		case 5:
			add(&us)(s.App(9, 2, pick(bools)))
		case 6:
			add(&bools)(s.Eq(pick(ints), pick(ints)))
		case 7:
			add(&bools)(s.Eq(pick(us), pick(us)))
		default:
			add(&bools)(s.Le(pick(ints), pick(ints), r.Int63n(7)-3))
		}
	}
	var all []api.Term
	for range 1 + r.Intn(7) {
		var c []api.Term
		for range 1 + r.Intn(3) {
			x := pick(bools)
			if r.Intn(2) == 0 {
				x, _ = s.Not(x)
			}
			c = append(c, x)
		}
		x, _ := s.Or(c...)
		all = append(all, x)
	}
	return all
}

func TestWithTheSearch(t *testing.T) {
	r := rand.New(rand.NewSource(20))
	answers, pairs, splits := map[api.Answer]int{}, 0, 0
	for range 3000 {
		s := terms.New()
		b, e := gates.New(s, formula(r, s)...)
		if e != api.OK {
			t.Fatal(e)
		}
		p := b.Problem()
		x, e := New(p, b.Pair)
		if e != api.OK {
			t.Fatal("New", e)
		}
		solver := sat.New(len(p.Atoms))
		db := slices.Clone(p.Clauses)
		for _, l := range p.Tops {
			db = append(db, lits{l})
		}
		for _, c := range db {
			solver.Add(c)
		}
		o, e := solver.Solve(nil, x, []uint64{r.Uint64()}, math.MaxInt64)
		answers[o.Answer]++
		final := b.Problem()
		if len(final.Atoms) > len(p.Atoms) {
			splits++
		}
		switch {
		case o.Answer == api.AnswerSat:
			full, e := x.Full()
			if e != api.OK || !correct(final, full, o.Model) {
				t.Fatal("the arrangement is not correct", full, e)
			}
		case o.Answer == api.AnswerUnsat:
			pairs += replay(t, s, db, p, o.Steps)
		default:
			t.Fatal("unknown")
		}
	}
	if answers[api.AnswerSat] < 300 || answers[api.AnswerUnsat] < 300 || pairs < 1 || splits < 5 {
		t.Error("answers", answers, pairs, splits)
	}
}

// replay checks the steps of an unsat answer; it is how many pairs there were.
func replay(t *testing.T, s *terms.Store, db []lits, p api.Problem, steps []api.Step) int {
	t.Helper()
	calls := new([][2]int)
	pair := pairing(&p, calls)
	for _, x := range steps {
		switch x.Kind {
		case api.StepClause:
			if ok, _ := rup.Follows(db, x.Lits); !ok {
				t.Fatal("a clause that does not follow", x.Lits)
			}
			db = append(db, x.Lits)
		case api.StepPair:
			_, made, _ := pair(x.A, x.B)
			db = append(db, made...)
		default:
			c, e := Clause(p, x)
			if normal, _ := clauses.Normal(c); e != api.OK || !slices.Equal(c, normal) {
				t.Fatal("a certificate that is not correct", x, e)
			}
			db = append(db, c)
		}
	}
	if ok, _ := rup.Follows(db, nil); !ok {
		t.Fatal("no refutation")
	}
	return len(*calls)
}
