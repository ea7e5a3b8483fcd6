package play

import (
	"fmt"
	"math"
	"math/rand"
	"slices"
	"strings"
	"testing"

	"jurist/api"
	"jurist/check"
	"jurist/driver"
	"jurist/elab"
	"jurist/lex"
	"jurist/proof"
	"jurist/show"
	"jurist/tree"
	"jurist/world"
)

func play(s string) string { return strings.Join(Play([]byte(s), nil, math.MaxInt64), "; ") }

func TestScripts(t *testing.T) {
	deep := strings.Repeat("(", 201) + strings.Repeat(")", 201)
	for in, want := range map[string]string{
		"(set-logic QF_UFIDL)(check-sat)(exit)(check-sat)": "success; sat; success",
		"(set-logic QF_UFIDL) ) (check-sat)":               `success; (error "at 21: wrong bytes")`,
		"(check-sat":                                       "",
		"":                                                 "",
		" ; nothing\n ":                                    "",
		"7 a":                                              `(error "at 0: wrong form"); (error "at 2: wrong form")`,
		"(set-logic QF_UFIDL) 07 (check-sat)":              `success; (error "at 21: wrong form")`,
		"(set-logic QF_UFIDL) \x00":                        `success; (error "at 21: wrong bytes")`,
		"(set-logic QF_UFIDL) |a":                          `success; (error "at 21: wrong bytes")`,
		"(set-logic QF_UFIDL) \"a":                         `success; (error "at 21: wrong bytes")`,
		"(set-logic QF_UFIDL) (assert |a":                  "success",
		"(set-logic QF_UFIDL) (assert 07) (check-sat)": "success",
		"(exit) 07": "success",
		"(exit) )":  "success",
		")":         `(error "at 0: wrong bytes")`,
		") 07":      `(error "at 0: wrong bytes")`,
		"07 )":      `(error "at 0: wrong form")`,
		" " + deep + " (set-logic QF_UFIDL)" + deep + "(check-sat)":        `(error "at 1: wrong form"); success; (error "at 424: wrong form"); sat`,
		"(set-option :print-success false)(set-logic QF_UFIDL)(check-sat)": "; ; sat",
		strings.Repeat("(", 300): "",
	} {
		if got := play(in); got != want {
			t.Errorf("Play(%.60q) = %s", in, got)
		}
	}
	if got := Play([]byte("(exit)"+strings.Repeat(" ", api.MaxScript)), nil, 1); !slices.Equal(got, []string{`(error "at 0: wrong form")`}) {
		t.Error("a script that is too long", got)
	}
	if got := Play([]byte("(exit)"+strings.Repeat(" ", api.MaxScript-6)), nil, 1); !slices.Equal(got, []string{"success"}) {
		t.Error("a script of MaxScript bytes", got)
	}
}

func TestExamples(t *testing.T) {
	for in, want := range map[string]string{
		"(set-logic QF_UFIDL)(declare-const p Bool)(assert p)(check-sat)":                                                                                         "success; success; success; sat",
		"(set-logic QF_UFIDL)(declare-const p Bool)(assert p)(check-sat)(assert (not p))(check-sat)":                                                              "success; success; success; sat; success; unsat",
		"(set-logic QF_UFIDL)(declare-const x Int)(declare-const y Int)(assert (< x y))(assert (< y (+ x 1)))(check-sat)":                                         "success; success; success; success; success; unsat",
		"(set-logic QF_UFIDL)(declare-const x Int)(declare-const y Int)(declare-fun f (Int) Int)(assert (= x y))(assert (distinct (f x) (f y)))(check-sat)":       "success; success; success; success; success; success; unsat",
		"(set-logic QF_UFIDL)(declare-const x Int)(declare-const y Int)(declare-fun f (Int) Int)(assert (= x (+ y 0)))(assert (distinct (f x) (f y)))(check-sat)": "success; success; success; success; success; success; unsat",
		"(set-logic QF_UFIDL)(declare-const x Int)(declare-const y Int)(assert (<= (+ x y) 3))":                                                                   `success; success; success; (error "at 62: not of difference logic")`,
		"(set-logic QF_UFIDL)(push 1)(assert false)(check-sat)(pop 1)(check-sat)":                                                                                 "success; success; success; unsat; success; sat",
		"(set-option :produce-models true)(set-logic QF_UFIDL)(declare-const x Int)(check-sat)(get-value (x))":                                                    "success; success; success; sat; ((x 0))",
		"(set-option :produce-proofs true)(set-logic QF_UFIDL)(declare-const p Bool)(assert p)(assert (not p))(check-sat)(get-proof)":                             "success; success; success; success; success; unsat; ((clause))",
		"(set-logic QF_UFIDL)(check-sat": "success",
	} {
		if got := play(in); got != want {
			t.Error(in, got)
		}
	}
}

const declarations = "(set-option :produce-models true)(set-option :produce-proofs true)(set-logic QF_UFIDL)(declare-sort U 0)(declare-const p Bool)(declare-const q Bool)(declare-const x Int)(declare-const y Int)(declare-const z Int)(declare-const u U)(declare-const v U)(declare-fun f (Int) Int)(declare-fun g (U) U)(declare-fun h (U Int) Bool)(define-fun inc ((n Int)) Int (+ n 1))"

// writer makes random assertions.
type writer struct{ *rand.Rand }

func (w writer) pick(l ...string) string { return l[w.Intn(len(l))] }

func (w writer) number(d int) string {
	if d == 0 {
		return w.pick("x", "y", "z", "0", "2", "(- 1)")
	}
	n := w.number(d - 1)
	return w.pick("(f "+n+")", "(+ "+n+" "+w.pick("1", "(- 2)")+")", "(inc "+n+")", "(ite "+w.truth(d-1)+" "+n+" "+w.number(d-1)+")", "(let ((n "+n+")) (f n))", w.number(0))
}

func (w writer) element(d int) string {
	if d == 0 {
		return w.pick("u", "v")
	}
	return w.pick("(g "+w.element(d-1)+")", "(ite "+w.truth(d-1)+" u "+w.element(d-1)+")", w.element(0))
}

func (w writer) truth(d int) string {
	if d == 0 {
		return w.pick("p", "q", "(= x y)", "(< y z)", "(h u x)", "(= u v)")
	}
	a, b := w.truth(d-1), w.truth(d-1)
	return w.pick("(not "+a+")", "(and "+a+" "+b+")", "(or "+a+" "+b+")", "(xor "+a+" "+b+")", "(=> "+a+" "+b+")", "(= "+w.number(d-1)+" "+w.number(d-1)+")", "(<= (- "+w.number(d-1)+" "+w.number(d-1)+") 1)", "(distinct "+w.number(d-1)+" "+w.number(d-1)+" "+w.number(0)+")", "(= "+w.element(d-1)+" "+w.element(d-1)+")", "(h "+w.element(d-1)+" "+w.number(d-1)+")", "(let ((p "+a+")) (and p "+b+"))")
}

func (w writer) assertions(n int) []string {
	var l []string
	for range 1 + w.Intn(n) {
		l = append(l, "(assert "+w.truth(1+w.Intn(2))+")")
	}
	return l
}

// answer is the last answer to a query.
func answer(responses []string) string {
	for i := len(responses) - 1; i >= 0; i-- {
		switch responses[i] {
		case "sat", "unsat", "unknown":
			return responses[i]
		}
	}
	return ""
}

// TestWhole checks T1 to T11 on random scripts.
func TestWhole(t *testing.T) {
	w := writer{rand.New(rand.NewSource(25))}
	count := map[string]int{}
	for range 800 {
		l := w.assertions(8)
		script := declarations + strings.Join(l, "") + "(check-sat)"
		responses := Play([]byte(script), nil, math.MaxInt64)
		first := answer(responses)
		count[first]++
		if first == "unknown" || len(responses) != strings.Count(declarations, "(de")+3+len(l)+1 {
			t.Fatal("T3, T4", script, responses)
		}
		checkVerdict(t, script)
		seeds := []uint64{w.Uint64(), w.Uint64(), w.Uint64()}
		if got := answer(Play([]byte(script), seeds, math.MaxInt64)); got != first {
			t.Fatal("T8", script, got)
		}
		if got := answer(Play([]byte(script), seeds, w.Int63n(60))); got != first && got != "unknown" {
			t.Fatal("T8", script, got)
		}
		other := slices.Clone(l)
		w.Shuffle(len(other), func(i, j int) { other[i], other[j] = other[j], other[i] })
		if got := answer(Play([]byte(reordered(w)+strings.Join(other, "")+"(check-sat)"), seeds, math.MaxInt64)); got != first {
			t.Fatal("T9", script, got)
		}
		scoped := declarations + strings.Join(l, "") + "(push)(declare-sort V 0)(declare-const late Int)" + strings.Join(w.assertions(4), "") + "(check-sat)(push 2)(assert x)(assert false)(pop 2)(pop)(check-sat)"
		if got := answer(Play([]byte(scoped), seeds, math.MaxInt64)); got != first {
			t.Fatal("T10", scoped, got)
		}
		checkVerdict(t, scoped)
		if got := answer(Play([]byte(strings.TrimSuffix(script, "(check-sat)")+w.assertions(1)[0]+"(check-sat)"), seeds, math.MaxInt64)); first == "unsat" && got != first {
			t.Fatal("T11", script, got)
		}
	}
	if count["sat"] < 100 || count["unsat"] < 100 {
		t.Error("answers", count)
	}
}

// reordered is the declarations in another order.
func reordered(w writer) string {
	head, tail, _ := strings.Cut(declarations, "(declare-const p Bool)")
	l := strings.SplitAfter("(declare-const p Bool)"+tail, ")(")
	all := strings.Split(strings.ReplaceAll(strings.Join(l, ""), ")(de", ")\x00(de"), "\x00")
	w.Shuffle(len(all), func(i, j int) { all[i], all[j] = all[j], all[i] })
	return head + strings.Join(all, "")
}

// checkVerdict checks T1, T2, T5 and T7 at the end of a script.
func checkVerdict(t *testing.T, script string) {
	t.Helper()
	d := driver.New(nil, math.MaxInt64)
	tokens, _, _ := lex.Tokens([]byte(script))
	trees, _, _ := tree.All(tokens)
	for _, x := range trees {
		d.Do(x)
	}
	b, l := d.Stack().Book(), d.Stack().Assertions()
	v, ok := d.Last()
	if !ok {
		t.Fatal("no verdict", script)
	}
	if v.Answer == api.AnswerSat {
		holds, e := world.Holds(b.Store, v.World, l...)
		if !holds || e != api.OK || !world.May(b.Names, v.World) {
			t.Fatal("T2", script)
		}
		x, _ := elab.Term(b, tree1("x"))
		value, _ := world.Value(b.Store, v.World, x)
		if got := d.Do(tree1("(get-value (x))")); got != fmt.Sprintf("((x %s))", number(value)) {
			t.Fatal("T2", got, value)
		}
	} else {
		steps, e := proof.ReadAll(tree1(d.Do(tree1("(get-proof)"))))
		right, refutes, f := check.Check(b.Store, l, steps)
		if e != api.OK || f != api.OK || right != len(steps) || !refutes {
			t.Fatal("T5", script, right, len(steps), refutes)
		}
	}
	for _, x := range l {
		s, e := show.Text(b, x)
		if again, f := elab.Term(b, tree1(s)); e != api.OK || f != api.OK || again != x {
			t.Fatal("T7", s, e, f)
		}
	}
}

func number(v api.Val) string {
	if v.I.High < 0 {
		return fmt.Sprintf("(- %d)", 1<<62-v.I.Low)
	}
	return fmt.Sprint(v.I.Low)
}

func tree1(s string) api.Tree {
	tokens, _, _ := lex.Tokens([]byte(s))
	x, _, _ := tree.Next(tokens, 0)
	return x
}

func TestCut(t *testing.T) {
	// If a script is cut after a command, the responses are the first ones of the whole.
	w := writer{rand.New(rand.NewSource(26))}
	for range 30 {
		all := append(strings.SplitAfter(strings.ReplaceAll(declarations, ")(", ")\x00("), "\x00"), w.assertions(5)...)
		all = append(all, "(check-sat)", "(get-value (x))", ") (check-sat)")
		whole := strings.ReplaceAll(strings.Join(all, ""), "\x00", " ")
		responses := Play([]byte(whole), nil, math.MaxInt64)
		for i := range all {
			part := strings.ReplaceAll(strings.Join(all[:i], ""), "\x00", " ")
			got := Play([]byte(part), nil, math.MaxInt64)
			if !slices.Equal(got, responses[:i]) {
				t.Fatal("cut", i, got)
			}
		}
	}
}

func TestNoise(t *testing.T) {
	// Whatever the bytes, there is an end and no panic, and one response more than commands at most.
	w := writer{rand.New(rand.NewSource(27))}
	pieces := []string{"(", ")", " ", "assert", "x", "07", "|", "\"", "check-sat", "(check-sat)", "(push)", "(pop)", "(set-logic QF_UFIDL)", "(declare-const x Int)", "(assert (< x 1))", "(get-model)", "\x00", ";", "\n", ":k", "#", "let", "(exit)", "(get-value (x))", "define-fun"}
	for range 3000 {
		var b strings.Builder
		for range w.Intn(30) {
			b.WriteString(w.pick(pieces...))
			b.WriteString(w.pick("", " "))
		}
		Play([]byte(b.String()), []uint64{w.Uint64()}, 1000)
	}
}
