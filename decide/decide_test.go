package decide

import (
	"math"
	"math/rand"
	"slices"
	"strconv"
	"strings"
	"testing"

	"jurist/api"
	"jurist/elab"
	"jurist/lex"
	"jurist/rewrite"
	"jurist/sorts"
	"jurist/terms"
	"jurist/tree"
	"jurist/world"
)

// book has the sort U; p, q, r of Bool, x, y, z of Int, u, v, w of U, f from Int to Int, g from U to U, h from U to Bool, k from Bool and Int to U.
func book(t testing.TB) *elab.Book {
	t.Helper()
	b := &elab.Book{Names: sorts.New(), Store: terms.New()}
	b.Names.DeclareSort("U")
	for _, f := range []api.Fun{{Name: "p"}, {Name: "q"}, {Name: "r"}, {Name: "x", Result: 1}, {Name: "y", Result: 1}, {Name: "z", Result: 1}, {Name: "u", Result: 2}, {Name: "v", Result: 2}, {Name: "w", Result: 2}, {Name: "f", Args: []api.Sort{1}, Result: 1}, {Name: "g", Args: []api.Sort{2}, Result: 2}, {Name: "h", Args: []api.Sort{2}}, {Name: "k", Args: []api.Sort{0, 1}, Result: 2}} {
		if _, e := b.Names.DeclareFun(f); e != api.OK {
			t.Fatal("declare", f)
		}
	}
	return b
}

func read(t testing.TB, b *elab.Book, l ...string) []api.Term {
	t.Helper()
	var all []api.Term
	for _, s := range l {
		tokens, _, _ := lex.Tokens([]byte(s))
		x, _, _ := tree.Next(tokens, 0)
		v, e := elab.Term(b, x)
		if e != api.OK {
			t.Fatal("term", s, e)
		}
		all = append(all, v)
	}
	return all
}

// decided checks what every verdict must be, and returns the answer.
func decided(t testing.TB, b *elab.Book, l []api.Term, seeds []uint64, budget int64) api.Verdict {
	t.Helper()
	v, e := Decide(b, l, seeds, budget)
	if e != api.OK {
		t.Fatal("Decide", e)
	}
	switch v.Answer {
	case api.AnswerSat:
		ok, e := world.Holds(b.Store, v.World, l...)
		if !world.May(b.Names, v.World) || !ok || e != api.OK || v.Steps != nil || v.Reason != 0 {
			t.Fatal("the world", v.World, ok, e)
		}
	case api.AnswerUnsat:
		last := v.Steps[len(v.Steps)-1]
		if last.Kind != api.StepClause || len(last.Lits) != 0 || v.World.Funs != nil || v.Reason != 0 {
			t.Fatal("the steps", v)
		}
	case api.AnswerUnknown:
		if v.Reason != api.ReasonBudget && v.Reason != api.ReasonFull || v.Steps != nil || v.World.Funs != nil || v.Reason == api.ReasonBudget && v.Used <= max(0, budget) {
			t.Fatal("unknown", v)
		}
	default:
		t.Fatal("no answer", v)
	}
	return v
}

func TestAnswers(t *testing.T) {
	for in, want := range map[string]api.Answer{
		"":                                  api.AnswerSat,
		"p; (not q)":                        api.AnswerSat,
		"p; (not p)":                        api.AnswerUnsat,
		"false":                             api.AnswerUnsat,
		"true; true":                        api.AnswerSat,
		"(= (f x) 1); (= (f y) 2); (= x y)": api.AnswerUnsat,
		"(= (f x) 1); (= (f y) 2)":          api.AnswerSat,
		"(< x y); (< y (+ x 1))":            api.AnswerUnsat,
		"(< x y); (< y (+ x 2))":            api.AnswerSat,
		"(= x y); (distinct (f x) (f y))":   api.AnswerUnsat,
		"(<= x y); (<= y x); (distinct (f x) (f y))":                                                              api.AnswerUnsat,
		"(<= x y); (<= y (+ x 1)); (distinct (f x) (f y)); (distinct (f (+ x 1)) (f y))":                          api.AnswerUnsat,
		"(<= 0 x 2); (distinct (f x) (f 0) (f 1)); (distinct (f x) (f 2))":                                        api.AnswerUnsat,
		"(<= 0 x 3); (distinct (f x) (f 0) (f 1)); (distinct (f x) (f 2))":                                        api.AnswerSat,
		"(<= 0 x 1); (<= 0 y 1); (<= 0 z 1); (distinct x y z)":                                                    api.AnswerUnsat,
		"(<= 0 x 2); (<= 0 y 2); (<= 0 z 2); (distinct x y z)":                                                    api.AnswerSat,
		"(= (g (g (g u))) u); (= (g (g (g (g (g u))))) u); (distinct (g u) u)":                                    api.AnswerUnsat,
		"(= (g (g (g u))) u); (distinct (g u) u)":                                                                 api.AnswerSat,
		"(distinct u v w); (h u); (not (h v)); (= (g u) v)":                                                       api.AnswerSat,
		"(h u); (not (h v)); (= u v)":                                                                             api.AnswerUnsat,
		"(= (k p 1) u); (= (k (not q) 1) v); (distinct u v); (= p (not q))":                                       api.AnswerUnsat,
		"(= (k p 1) u); (= (k (and q r) x) v); (distinct u v); p; q; r; (<= x 1)":                                 api.AnswerSat,
		"(= (k p 1) u); (= (k (and q r) x) v); (distinct u v); p; q; r; (<= 1 x 1)":                               api.AnswerUnsat,
		"(= (k (= x y) 0) u); (= (k true 0) v); (distinct u v); (= x y)":                                          api.AnswerUnsat,
		"(= (k (< x y) 0) u); (= (k false 0) v); (distinct u v); (= x y)":                                         api.AnswerUnsat,
		"(= x (ite p y (+ y 1))); (< x y)":                                                                        api.AnswerUnsat,
		"(= x (ite p y (+ y 1))); (> x y); (= u (ite p v w)); (distinct u w)":                                     api.AnswerUnsat,
		"(= x 4611686018427387903); (= y (f x)); (<= y (- 4611686018427387903)); (< z (- y 4611686018427387000))": api.AnswerSat,
		"(= (f (f x)) x); (= (f x) (+ x 1))":                                                                      api.AnswerSat,
		"(= (f x) (+ x 1)); (= (f (+ x 1)) x); (= (f (f (f x))) x)":                                               api.AnswerUnsat,
	} {
		for _, seeds := range [][]uint64{nil, {math.MaxUint64}, {5, 77}} {
			b := book(t)
			var l []string
			for _, s := range strings.Split(in, ";") {
				if strings.TrimSpace(s) != "" {
					l = append(l, s)
				}
			}
			all := read(t, b, l...)
			if v := decided(t, b, all, seeds, math.MaxInt64); v.Answer != want {
				t.Error(in, v.Answer, "want", want)
			}
			for _, budget := range []int64{0, -1, math.MinInt64} {
				if v := decided(t, b, all, seeds, budget); v.Answer != api.AnswerUnknown || v.Reason != api.ReasonBudget {
					t.Error(in, "with the budget", budget, v)
				}
			}
		}
	}
}

func TestErrors(t *testing.T) {
	b := book(t)
	for _, none := range []*elab.Book{nil, {}, {Names: b.Names}, {Store: b.Store}} {
		if v, e := Decide(none, []api.Term{-1}, nil, 9); v.Answer != 0 || e != api.ErrNil {
			t.Error("no book", e)
		}
	}
	x := read(t, b, "x")[0]
	for _, none := range []api.Term{-1, math.MaxInt, 99} {
		if v, e := Decide(b, []api.Term{x, none}, nil, 9); v.Answer != 0 || e != api.ErrNone {
			t.Error("no term", e)
		}
	}
	if v, e := Decide(b, []api.Term{0, x}, nil, 9); v.Answer != 0 || e != api.ErrSort {
		t.Error("an integer", e)
	}
	hidden, _ := b.Store.App(1<<40, 0)
	if v, e := Decide(b, []api.Term{hidden}, nil, 99); e != api.OK || v.Answer != api.AnswerUnknown || v.Reason != api.ReasonFull {
		t.Error("a function that no world may have", v, e)
	}
}

func TestNoRoom(t *testing.T) {
	b := book(t)
	all := read(t, b, "(not (not (or p (or q r))))", "(= (f x) y)")
	for i := b.Store.Len(); i < api.MaxTerms; i++ {
		b.Store.App(1000+i, 0)
	}
	if v := decided(t, b, all, nil, 1000); v.Answer != api.AnswerUnknown || v.Reason != api.ReasonFull {
		t.Error("a full store", v)
	}
	if v, e := Decide(b, append(all[1:], -1), nil, 1000); e != api.ErrNone {
		t.Error("an error beside", v, e)
	}
	// More rows than a function's table may have.
	b = book(t)
	var l []api.Term
	for i := range api.MaxRows + 1 {
		l = append(l, read(t, b, "(= (f "+strconv.Itoa(i)+") 0)")...)
	}
	if v := decided(t, b, l, nil, math.MaxInt64); v.Answer != api.AnswerUnknown || v.Reason != api.ReasonFull {
		t.Error("too many rows", v.Answer, v.Reason)
	}
	if v := decided(t, b, l[:api.MaxRows], nil, math.MaxInt64); v.Answer != api.AnswerSat {
		t.Error("MaxRows rows", v.Answer, v.Reason)
	}
}

func TestStoreAfterwards(t *testing.T) {
	b := book(t)
	all := read(t, b, "(and p (not (not q)))")
	funs, level := len(b.Names.Funs()), b.Names.Level()
	decided(t, b, all, nil, 1000)
	length := b.Store.Len()
	if _, e := rewrite.All(b.Store, all...); e != api.OK || b.Store.Len() != length || len(b.Names.Funs()) != funs || b.Names.Level() != level || b.Macros != nil {
		t.Error("the book afterwards")
	}
}

// some makes a random assertion.
func some(r *rand.Rand, depth int) string {
	pick := func(l ...string) string { return l[r.Intn(len(l))] }
	var num, el func(d int) string
	num = func(d int) string {
		if d == 0 {
			return pick("x", "y", "z", "0", "1", "(- 1)")
		}
		return pick("(f "+num(d-1)+")", "(+ "+num(d-1)+" "+pick("1", "2", "(- 1)")+")", "(ite "+some(r, d-1)+" "+num(d-1)+" "+num(d-1)+")", num(0), num(0))
	}
	el = func(d int) string {
		if d == 0 {
			return pick("u", "v", "w")
		}
		return pick("(g "+el(d-1)+")", "(k "+some(r, d-1)+" "+num(d-1)+")", el(0))
	}
	if depth == 0 {
		return pick("p", "q", "r", "(= x y)", "(<= x z)", "(< y x)", "(= u v)", "(h w)")
	}
	d := depth - 1
	return pick("(not "+some(r, d)+")", "(and "+some(r, d)+" "+some(r, d)+")", "(or "+some(r, d)+" "+some(r, d)+" "+some(r, d)+")", "(=> "+some(r, d)+" "+some(r, d)+")", "(= "+some(r, d)+" "+some(r, d)+")", "(ite "+some(r, d)+" "+some(r, d)+" "+some(r, d)+")",
		"(= "+num(d)+" "+num(d)+")", "(<= (- "+num(d)+" "+num(d)+") "+pick("0", "1", "(- 1)", "2")+")", "(< "+num(d)+" "+num(d)+")", "(= "+el(d)+" "+el(d)+")", "(distinct "+el(d)+" "+el(d)+")", "(h "+el(d)+")", "(distinct "+num(d)+" "+num(d)+" "+num(d)+")")
}

// randomWorld has small integers and at most three elements.
func randomWorld(r *rand.Rand, b *elab.Book) api.World {
	size := 1 + r.Int63n(3)
	w := api.World{Sizes: []api.Size{{Sort: 2, Size: size}}}
	val := func(s api.Sort) api.Val {
		v := api.Val{Sort: s}
		switch s {
		case api.Bool:
			v.B = r.Intn(2) == 0
		case api.Int1:
			n := r.Int63n(7) - 3
			v.I = api.Int{High: n >> 62, Low: n & (1<<62 - 1)}
		default:
			v.E = r.Int63n(size)
		}
		return v
	}
	for _, f := range b.Names.Funs() {
		info, _ := b.Names.Info(f)
		table := api.Table{Fun: f, Else: val(info.Result)}
		for range 4 * len(info.Args) {
			row := api.Row{Value: val(info.Result)}
			for _, s := range info.Args {
				row.Args = append(row.Args, val(s))
			}
			table.Rows = append(table.Rows, row)
		}
		w.Funs = append(w.Funs, table)
	}
	return w
}

func TestRandom(t *testing.T) {
	r := rand.New(rand.NewSource(22))
	answers := map[api.Answer]int{}
	for range 1500 {
		b := book(t)
		var l []string
		for range 1 + r.Intn(8) {
			l = append(l, some(r, 1+r.Intn(3)))
		}
		all := read(t, b, l...)
		first := decided(t, b, all, nil, math.MaxInt64).Answer
		answers[first]++
		if first == api.AnswerUnknown {
			t.Fatal("unknown", l)
		}
		if first == api.AnswerUnsat {
			for range 60 {
				if ok, _ := world.Holds(b.Store, randomWorld(r, b), all...); ok {
					t.Fatal("a world in which all assertions hold", l)
				}
			}
		}
		// Other seeds, another order, more assertions.
		seeds := []uint64{r.Uint64(), r.Uint64()}
		if again := decided(t, b, all, seeds, math.MaxInt64).Answer; again != first {
			t.Fatal("seeds", l)
		}
		slices.Reverse(l)
		other := book(t)
		if again := decided(t, other, read(t, other, l...), seeds, math.MaxInt64).Answer; again != first {
			t.Fatal("order", l)
		}
		more := append(all, read(t, b, some(r, 2))...)
		if again := decided(t, b, more, seeds, math.MaxInt64).Answer; first == api.AnswerUnsat && again != first {
			t.Fatal("more assertions", l)
		}
	}
	if answers[api.AnswerSat] < 200 || answers[api.AnswerUnsat] < 200 {
		t.Error("answers", answers)
	}
}

func TestBudget(t *testing.T) {
	in := []string{"(<= 0 x 2)", "(distinct (f x) (f 0) (f 1))", "(distinct (f x) (f 2))"}
	b := book(t)
	v := decided(t, b, read(t, b, in...), nil, math.MaxInt64)
	for budget := int64(0); budget < v.Used; budget += 1 + v.Used/50 {
		if w := decided(t, b, read(t, b, in...), nil, budget); w.Answer != api.AnswerUnknown || w.Reason != api.ReasonBudget {
			t.Error("budget", budget, w.Answer)
		}
	}
	if w := decided(t, b, read(t, b, in...), nil, v.Used); w.Answer != v.Answer || w.Used != v.Used {
		t.Error("the budget that it takes", w.Answer)
	}
	// With few atoms the bound of the document can be tried: n is 1 for no assertions, 2 for one function.
	for s, n := range map[string]int64{"": 1, "p": 2, "(= x y)": 4, "(= u v)": 2, "(= (g u) v)": 2} {
		b := book(t)
		var l []api.Term
		if s != "" {
			l = read(t, b, s)
		}
		p := int64(math.Pow(3, float64(n)))
		if v := decided(t, b, l, nil, (p+1)*(8*n+8)); v.Answer != api.AnswerSat {
			t.Error("budget of", s, v.Answer)
		}
	}
}
