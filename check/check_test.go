package check

import (
	"math"
	"math/rand"
	"slices"
	"testing"

	"jurist/api"
	"jurist/decide"
	"jurist/elab"
	"jurist/gates"
	"jurist/lex"
	"jurist/rewrite"
	"jurist/sorts"
	"jurist/terms"
	"jurist/tree"
	"jurist/world"
)

type lits = []api.Lit

// book has the sort U; p, q of Bool, x, y of Int, u, v of U, f from Int to Int, g from U to U, h from Int to U.
func book(t *testing.T) *elab.Book {
	t.Helper()
	b := &elab.Book{Names: sorts.New(), Store: terms.New()}
	b.Names.DeclareSort("U")
	for _, f := range []api.Fun{{Name: "p"}, {Name: "q"}, {Name: "x", Result: 1}, {Name: "y", Result: 1}, {Name: "u", Result: 2}, {Name: "v", Result: 2}, {Name: "f", Args: []api.Sort{1}, Result: 1}, {Name: "g", Args: []api.Sort{2}, Result: 2}, {Name: "h", Args: []api.Sort{1}, Result: 2}} {
		if _, e := b.Names.DeclareFun(f); e != api.OK {
			t.Fatal("declare", f)
		}
	}
	return b
}

func read(t *testing.T, b *elab.Book, l ...string) []api.Term {
	t.Helper()
	var all []api.Term
	for _, s := range l {
		tokens, _, _ := lex.Tokens([]byte(s))
		x, _, _ := tree.Next(tokens, 0)
		v, e := elab.Term(b, x)
		if e != api.OK {
			t.Fatal("term", s, e)
		}
		all = append(all, v)
	}
	return all
}

func clause(l ...api.Lit) api.Step { return api.Step{Kind: api.StepClause, Lits: l} }
func cycle(l ...api.Lit) api.Step  { return api.Step{Kind: api.StepCycle, Lits: l} }
func pair(a, b int) api.Step       { return api.Step{Kind: api.StepPair, A: a, B: b} }
func certificate(l ...api.Link) api.Step {
	return api.Step{Kind: api.StepLinks, Links: l}
}

func TestSteps(t *testing.T) {
	given := func(l api.Lit) api.Link { return api.Link{Kind: api.LinkGiven, Lit: l} }
	for what, c := range map[string]struct {
		in      []string
		steps   []api.Step
		right   int
		refutes bool
	}{
		"both":              {[]string{"p", "(not p)"}, []api.Step{clause()}, 1, true},
		"one":               {[]string{"p"}, []api.Step{clause()}, 0, false},
		"no steps":          {[]string{"p", "(not p)"}, nil, 0, false},
		"no empty clause":   {[]string{"p", "(not p)"}, []api.Step{clause(2), clause(-2)}, 2, false},
		"and more":          {[]string{"p", "(not p)"}, []api.Step{clause(2), clause(), clause(1)}, 3, true},
		"then wrong":        {[]string{"p", "(not p)"}, []api.Step{clause(), clause(3)}, 1, false},
		"no atom":           {[]string{"p", "(not p)"}, []api.Step{clause(3, -3)}, 0, false},
		"an atom beside":    {[]string{"p"}, []api.Step{clause(2), clause(2, 3)}, 1, false},
		"a negation beside": {[]string{"p"}, []api.Step{clause(2), clause(2, -3)}, 1, false},
		"literal 0":         {[]string{"p", "(not p)"}, []api.Step{clause(0)}, 0, false},
		"no kind":           {[]string{"p", "(not p)"}, []api.Step{{}}, 0, false},
		"kind 5":            {[]string{"p", "(not p)"}, []api.Step{{Kind: 5}}, 0, false},
		"other fields":      {[]string{"p", "(not p)"}, []api.Step{{Kind: api.StepClause, A: 1}}, 0, false},
		"tautology":         {[]string{"p"}, []api.Step{clause(2, -2), clause(-1)}, 1, false},
		// x and y are variables 1 and 2; atoms 2 and 3 are the two differences.
		"a cycle":          {[]string{"(< x y)", "(< y x)"}, []api.Step{cycle(2, 3), clause()}, 2, true},
		"a cycle later":    {[]string{"(< x y)", "(< y x)"}, []api.Step{clause(), cycle(2, 3)}, 0, false},
		"no cycle":         {[]string{"(< x y)", "(< y x)"}, []api.Step{cycle(2), clause()}, 0, false},
		"a cycle of no Le": {[]string{"(< x y)", "(< y x)"}, []api.Step{cycle(1)}, 0, false},
		// u, v, g(u), g(v) are vertices 2, 3, 4, 5; atom 2 is u = v, atom 3 is g(u) = g(v).
		"congruence":          {[]string{"(= u v)", "(distinct (g u) (g v))"}, []api.Step{certificate(given(2), api.Link{Kind: api.LinkApply, A: 4, B: 5, List: []int{0}}, api.Link{Kind: api.LinkAgainst, Lit: -3, I: 1}), clause()}, 2, true},
		"no congruence":       {[]string{"(= u v)", "(distinct (g u) (g v))"}, []api.Step{certificate(given(2), api.Link{Kind: api.LinkApply, A: 5, B: 4, List: []int{0}}, api.Link{Kind: api.LinkAgainst, Lit: -3, I: 1}), clause()}, 0, false},
		"not closed":          {[]string{"(= u v)"}, []api.Step{certificate(given(2))}, 0, false},
		"no links":            {[]string{"(= u v)"}, []api.Step{certificate()}, 0, false},
		"a pair":              {[]string{"(= u v)", "(<= x y)"}, []api.Step{pair(4, 5), pair(5, 4), clause(4, -4)}, 3, false},
		"an atom too far":     {[]string{"(= u v)", "(<= x y)"}, []api.Step{pair(4, 5), clause(6, -6)}, 1, false},
		"a pair of two sorts": {[]string{"(= u v)", "(<= x y)"}, []api.Step{pair(2, 4)}, 0, false},
		"no pair":             {[]string{"(= u v)"}, []api.Step{pair(2, 9)}, 0, false},
		"one vertex":          {[]string{"(= u v)"}, []api.Step{pair(2, 2)}, 0, false},
	} {
		b := book(t)
		l := read(t, b, c.in...)
		right, refutes, e := Check(b.Store, l, c.steps)
		if right != c.right || refutes != c.refutes || e != api.OK {
			t.Error(what, right, refutes, e)
		}
	}
}

func TestErrors(t *testing.T) {
	b := book(t)
	l := read(t, b, "p", "x", "(or (not (not p)) q)")
	if n, r, e := Check(nil, []api.Term{-1}, nil); n != 0 || r || e != api.ErrNil {
		t.Error("no store", e)
	}
	for _, none := range []api.Term{-1, 99, math.MaxInt} {
		if n, r, e := Check(b.Store, []api.Term{l[1], none}, []api.Step{clause()}); n != 0 || r || e != api.ErrNone {
			t.Error("no term", e)
		}
	}
	if n, r, e := Check(b.Store, l, nil); n != 0 || r || e != api.ErrSort {
		t.Error("an integer", e)
	}
	length := b.Store.Len()
	if _, _, e := Check(b.Store, l[2:], nil); e != api.OK || b.Store.Len() != length {
		t.Error("the store was changed", b.Store.Len(), length)
	}
	for i := length; i < api.MaxTerms; i++ {
		b.Store.App(1000+i, 1)
	}
	if n, r, e := Check(b.Store, l[2:], nil); n != 0 || r || e != api.ErrFull {
		t.Error("no room", e)
	}
	if _, _, e := Check(b.Store, append(l[2:], -1), nil); e != api.ErrNone {
		t.Error("ErrNone comes first", e)
	}
}

var sources = []string{"p", "q", "(= u v)", "(= (g u) v)", "(= (g (g u)) u)", "(<= x y)", "(< y x)", "(= x y)", "(= (f x) y)", "(= (f y) (+ x 1))", "(= (h x) u)", "(= (h (f y)) v)", "(<= 0 x 1)", "(= (h 0) (h 1))", "(= x (ite p y (+ y 1)))", "(distinct x y (f x))", "(= (h (ite q x 0)) (g v))", "(= (g (g (g u))) u)", "(= v (g (g v)))", "(distinct (h x) (h y))", "(= (g (h x)) (h y))", "(distinct u v (g u))"}

func assertions(r *rand.Rand) []string {
	var l []string
	for range 1 + r.Intn(14) {
		s := sources[r.Intn(len(sources))]
		switch r.Intn(4) {
		case 0:
			s = "(not " + s + ")"
		case 1:
			s = "(or " + s + " (not " + sources[r.Intn(len(sources))] + "))"
		}
		l = append(l, s)
	}
	return l
}

func TestProofsOfTheSearch(t *testing.T) {
	r := rand.New(rand.NewSource(23))
	kinds := map[api.StepKind]int{}
	for range 1500 {
		b := book(t)
		l := read(t, b, assertions(r)...)
		v, e := decide.Decide(b, l, []uint64{r.Uint64()}, math.MaxInt64)
		if e != api.OK {
			t.Fatal(e)
		}
		if v.Answer == api.AnswerSat {
			if _, refutes, _ := Check(b.Store, l, slices.Repeat([]api.Step{clause()}, 2)); refutes {
				t.Fatal("a refutation of what a world satisfies")
			}
			continue
		}
		right, refutes, e := Check(b.Store, l, v.Steps)
		if right != len(v.Steps) || !refutes || e != api.OK {
			t.Fatal("a proof of the search", right, len(v.Steps), refutes, e)
		}
		for _, x := range v.Steps {
			kinds[x.Kind]++
		}
	}
	if kinds[api.StepClause] < 100 || kinds[api.StepLinks] < 20 || kinds[api.StepCycle] < 50 || kinds[api.StepPair] < 3 {
		t.Error("kinds", kinds)
	}
}

// TestSound spoils proofs of other assertions at random: none may refute assertions that have a world.
func TestSound(t *testing.T) {
	r := rand.New(rand.NewSource(24))
	var known []api.Step
	for range 800 {
		b := book(t)
		l := read(t, b, assertions(r)...)
		v, _ := decide.Decide(b, l, nil, math.MaxInt64)
		if v.Answer == api.AnswerUnsat {
			known = append(known, v.Steps...)
			continue
		}
		if ok, _ := world.Holds(b.Store, v.World, l...); !ok {
			t.Fatal("world")
		}
		simple, _ := rewrite.All(b.Store, l...)
		board, _ := gates.New(b.Store, simple...)
		atoms := len(board.Problem().Atoms)
		for range 30 {
			var steps []api.Step
			for range r.Intn(8) {
				if len(known) > 0 {
					steps = append(steps, spoiled(r, known[r.Intn(len(known))], atoms))
				}
			}
			steps = append(steps, clause())
			if right, refutes, e := Check(b.Store, l, steps); refutes || right >= len(steps) || e != api.OK {
				t.Fatal("a refutation of what a world satisfies", steps)
			}
		}
	}
}

// spoiled is a step with a few numbers changed.
func spoiled(r *rand.Rand, x api.Step, atoms int) api.Step {
	lit := func(l api.Lit) api.Lit {
		if r.Intn(3) == 0 {
			return api.Lit(1+r.Intn(atoms)) * api.Lit(1-2*r.Intn(2))
		}
		return l
	}
	number := func(n, most int) int {
		if r.Intn(4) == 0 {
			return r.Intn(most)
		}
		return n
	}
	x.Lits, x.Links = slices.Clone(x.Lits), slices.Clone(x.Links)
	for i := range x.Lits {
		x.Lits[i] = lit(x.Lits[i])
	}
	for i, l := range x.Links {
		if l.Lit != 0 {
			x.Links[i].Lit = lit(l.Lit)
		}
		if l.I > 0 {
			x.Links[i].I = number(l.I, i+1)
		}
		if l.Kind == api.LinkApply {
			x.Links[i].A, x.Links[i].B = number(l.A, 8), number(l.B, 8)
		}
	}
	if x.Kind == api.StepPair {
		x.A, x.B = number(x.A, 9), number(x.B, 9)
	}
	return x
}
