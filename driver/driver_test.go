package driver

import (
	"math"
	"slices"
	"strings"
	"testing"

	"jurist/api"
	"jurist/check"
	"jurist/lex"
	"jurist/proof"
	"jurist/show"
	"jurist/tree"
	"jurist/world"
)

const start = "(set-option :produce-models true)(set-option :produce-proofs true)(set-logic QF_UFIDL)(declare-const p Bool)(declare-const x Int)(declare-const y Int)(declare-sort U 0)(declare-fun f (Int U) Bool)(declare-const u U)"

func trees(t *testing.T, s string) []api.Tree {
	t.Helper()
	l, _, e := lex.Tokens([]byte(s))
	x, _, f := tree.All(l)
	if e != api.OK || f != api.OK {
		t.Fatal("trees", s, e, f)
	}
	return x
}

// say lets a driver do commands, and joins the responses.
func say(t *testing.T, d *Driver, s string) string {
	t.Helper()
	var l []string
	for _, x := range trees(t, s) {
		l = append(l, d.Do(x))
	}
	return strings.Join(l, "; ")
}

func begun(t *testing.T) *Driver {
	t.Helper()
	d := New(nil, math.MaxInt64)
	if got := say(t, d, start); got != strings.Repeat("success; ", 8)+"success" {
		t.Fatal("start", got)
	}
	return d
}

func TestExamples(t *testing.T) {
	d := New(nil, 1000)
	if got := say(t, d, "(assert true)"); got != `(error "at 0: not at this place")` {
		t.Error(got)
	}
	if got := say(t, d, "(set-logic QF_UFIDL)(declare-const p Bool)(assert p)(check-sat)"); got != "success; success; success; sat" {
		t.Error(got)
	}
	if got := say(t, New(nil, 1000), "(set-logic QF_LRA)"); got != "unsupported" {
		t.Error(got)
	}
	if got := say(t, d, "(assert (not p))(check-sat)"); got != "success; unsat" {
		t.Error(got)
	}
}

func TestForms(t *testing.T) {
	for _, s := range []string{
		"(set-logic)", "(set-logic 1)", "(set-logic QF_UFIDL QF_UFIDL)", "(set-logic (QF_UFIDL))", "(set-option :a)", "(set-option a true)", "(set-option :a true true)", "(set-option :print-success 1)", "(set-option :print-success (true))", "(set-option :produce-models yes)", "(set-option :produce-proofs \"true\")", "(set-option :produce-proofs 99999999999999999999)",
		"(set-info)", "(set-info a)", "(get-info)", "(get-info a)", "(get-info :a b)", "(declare-sort A)", "(declare-sort 1 0)", "(declare-sort A a)", "(declare-sort A 0 0)", "(declare-sort A 1.5)", "(declare-fun a Int)", "(declare-fun a ())", "(declare-fun a Int Int)", "(declare-fun (a) () Int)", "(declare-fun a () Int Int)", "(declare-const a)", "(declare-const a Int Int)", "(declare-const 1 Int)",
		"(define-fun a () Int)", "(define-fun a Int Int 1)", "(define-fun a (n) Int 1)", "(define-fun a ((n)) Int 1)", "(define-fun a ((n Int Int)) Int 1)", "(define-fun a ((1 Int)) Int 1)", "(define-fun a () Int 1 1)", "(define-fun a (((n) Int)) Int 1)", "(assert)", "(assert true true)", "(push a)", "(push 1 1)", "(push (1))", "(pop :a)", "(pop 1 1)", "(check-sat true)", "(get-model a)", "(get-value)", "(get-value x)", "(get-value ())", "(get-value (x) (x))", "(get-proof 1)", "(exit 1)",
		"a", "1", "()", "((check-sat))", "(1)", "(\"check-sat\")", "(:check-sat)",
	} {
		d := New(nil, 1000)
		if got := say(t, d, s); got != `(error "at 0: wrong form")` {
			t.Error("form", s, got)
		}
	}
	for s, want := range map[string]string{
		"(reset)": "unsupported", "(get-assertions 1 2)": "unsupported", "(Check-sat)": "unsupported", "(set-logic ALL)": "unsupported", "(set-option :x (1 2))": "unsupported", "(get-info :name)": "unsupported", "(declare-sort A 1)": "unsupported", "(|check-sat|)": `(error "at 0: not at this place")`,
		"(push 99999999999999999999)": `(error "at 0: a number is too great")`, "(pop 4611686018427387904)": `(error "at 0: a number is too great")`, "(declare-sort A 99999999999999999999)": `(error "at 0: a number is too great")`, "(push 4611686018427387903)": `(error "at 0: not at this place")`, "(define-fun a () Int 99999999999999999999)": `(error "at 0: not at this place")`, "  (assert 99999999999999999999)": `(error "at 2: not at this place")`,
		"(set-info :a)": "success", "(set-info :a b (c) 1)": "success", "(get-info :reason-unknown)": `(error "at 0: not now")`, "(get-model)": `(error "at 0: not now")`, "(get-value (x))": `(error "at 0: not now")`, "(get-proof)": `(error "at 0: not now")`, "(check-sat)": `(error "at 0: not at this place")`,
	} {
		if got := say(t, New(nil, 1000), s); got != want {
			t.Error(s, got)
		}
	}
	bad := trees(t, "(push 1)")[0]
	bad.Kids[1].Tok.Text = "01"
	if got := New(nil, 1).Do(bad); got != `(error "at 0: wrong form")` {
		t.Error("a numeral that is none", got)
	}
}

func TestCommands(t *testing.T) {
	for in, want := range map[string]string{
		"(set-logic QF_UFIDL)":              `(error "at 0: a name that stands already")`,
		"(set-option :print-success false)": `(error "at 0: not at this place")`,
		"(set-option :print-success maybe)": `(error "at 0: wrong form")`,
		"(set-option :other false)":         "unsupported",
		"(declare-sort U 0)":                `(error "at 0: a name that stands already")`,
		"(declare-sort Int 0)":              `(error "at 0: a name that may not be")`,
		"(declare-fun g (V) Int)":           `(error "at 0: a name that does not stand")`,
		"(declare-const p Int)":             `(error "at 0: a name that stands already")`,
		"(define-fun d ((n Int)) Int (+ n 1))(assert (= x (d y)))(check-sat)": "success; success; sat",
		"(define-fun d ((n Int)) Bool (+ n 1))":                               `(error "at 0: wrong sort")`,
		"(define-fun d ((n Int) (n Int)) Int n)":                              `(error "at 0: a name that stands already")`,
		"(assert x)":                                                          `(error "at 0: wrong sort")`,
		"(assert (<= (+ x y) 3))":                                             `(error "at 0: not of difference logic")`,
		"(assert (< 99999999999999999999 x))":                                 `(error "at 0: a number is too great")`,
		"(push 201)":                                                          `(error "at 0: no such scope")`,
		"(pop)":                                                               `(error "at 0: no such scope")`,
		"(push)(push 2)(pop)(pop 2)(pop 0)(push 0)(pop)":                      `success; success; success; success; success; success; (error "at 41: no such scope")`,
		"(push 1)(assert false)(check-sat)(pop 1)(check-sat)":                 "success; success; unsat; success; sat",
		"(assert (< x y))(assert (< y (+ x 1)))(check-sat)":                   "success; success; unsat",
		"(get-model)":                                                         `(error "at 0: not now")`,
		"(check-sat)(get-proof)":                                              `sat; (error "at 11: not now")`,
		"(assert (and p (not p)))(check-sat)(get-proof)(get-model)(get-value (x))(get-info :reason-unknown)": `success; unsat; ((clause)); (error "at 46: not now"); (error "at 57: not now"); (error "at 72: not now")`,
		"(assert (= x 7))(check-sat)(get-value (x (+ x 1) (< x 7) (- 3)))":                                   "success; sat; ((x 7) ((+ x 1) 8) ((< x 7) false) ((- 3) (- 3)))",
		"(check-sat)(get-value (w))(get-value (x (- x y)))(get-value (x (f x u)))":                           "sat; (error \"at 11: a name that does not stand\"); (error \"at 26: not of difference logic\"); ((x 0) ((f x u) false))",
		"(exit)(check-sat)(nothing) 7": `success; (error "at 6: not now"); (error "at 17: not now"); (error "at 27: not now")`,
	} {
		d := begun(t)
		if got := say(t, d, in); got != want {
			t.Error(in, got)
		}
	}
}

func TestOptionsAreOff(t *testing.T) {
	d := New(nil, math.MaxInt64)
	if got := say(t, d, "(set-logic QF_UFIDL)(check-sat)(get-model)(get-value (true))(push)(assert false)(check-sat)(get-proof)"); got != `success; sat; (error "at 31: not now"); (error "at 42: not now"); success; success; unsat; (error "at 91: not now")` {
		t.Error(got)
	}
	d = New(nil, math.MaxInt64)
	if got := say(t, d, "(set-option :print-success false)(set-logic QF_UFIDL)(set-info :a)(nothing)(assert x)(assert true)(check-sat)(exit)"); got != `; ; ; unsupported; (error "at 75: a name that does not stand"); ; sat; ` {
		t.Error(got)
	}
	d = New(nil, math.MaxInt64)
	if got := say(t, d, "(set-option :print-success false)(set-option :print-success true)(set-option :print-success false)"); got != "; success; " {
		t.Error("the option after the command counts", got)
	}
}

func TestLastVerdict(t *testing.T) {
	for s, gone := range map[string]bool{
		"(declare-sort V 0)": true, "(declare-fun g (Int) Int)": true, "(declare-const c Int)": true, "(define-fun d () Int 1)": true, "(assert true)": true, "(push 0)": true, "(pop 0)": true, "(push)": true,
		"(declare-sort V 1)": false, "(declare-sort U 0)": false, "(declare-const p Int)": false, "(define-fun d () Int true)": false, "(assert x)": false, "(pop 1)": false, "(push 999)": false, "(set-info :a)": false, "(set-option :a b)": false, "(get-model)": false, "(get-value (x))": false, "(get-proof)": false, "(nothing)": false, "(push x)": false, "(set-logic QF_UFIDL)": false, "(exit)": false,
	} {
		d := begun(t)
		if _, ok := d.Last(); ok {
			t.Error("a verdict from the start")
		}
		say(t, d, "(check-sat)")
		v, ok := d.Last()
		if !ok || v.Answer != api.AnswerSat {
			t.Fatal("Last", v, ok)
		}
		say(t, d, s)
		w, ok := d.Last()
		if ok == gone || gone && (w.Answer != 0 || w.World.Funs != nil) {
			t.Error("Last after", s, ok)
		}
	}
}

func TestUnknown(t *testing.T) {
	d := New([]uint64{3}, 2)
	if got := say(t, d, start+"(assert p)(check-sat)(get-info :reason-unknown)(get-info :name)(get-model)"); !strings.HasSuffix(got, `success; unknown; (:reason-unknown budget); unsupported; (error "at 278: not now")`) {
		t.Error(got)
	}
	d = begun(t)
	for i := 0; d.Stack().Book().Store.Len() < api.MaxTerms; i++ {
		d.Stack().Book().Store.App(3, 0, api.Zero, api.Term(i))
	}
	if got := say(t, d, "(assert p)(assert (not p))(check-sat)"); got != `(error "at 0: no room"); (error "at 10: no room"); sat` {
		t.Error("a full store", got)
	}
	d = begun(t)
	say(t, d, "(assert (not (not (or p (f x u)))))")
	for i := 0; d.Stack().Book().Store.Len() < api.MaxTerms; i++ {
		d.Stack().Book().Store.App(4, 2, api.Zero, api.Term(i))
	}
	say(t, d, "(push)")
	if got := say(t, d, "(check-sat)"); got != "sat" {
		t.Error("nothing is to be made", got)
	}
	d = begun(t)
	say(t, d, "(assert (or p (or (not p) (f x u))))(assert (and p (and (f x u) (f y u))))")
	for i := 0; d.Stack().Book().Store.Len() < api.MaxTerms; i++ {
		d.Stack().Book().Store.App(4, 2, api.Zero, api.Term(i))
	}
	if got := say(t, d, "(check-sat)(get-info :reason-unknown)"); got != "unknown; (:reason-unknown full)" {
		t.Error("no room for simple forms", got)
	}
}

// state is all that an error may not change.
func state(t *testing.T, d *Driver) string {
	t.Helper()
	b := d.Stack().Book()
	var l []string
	for _, f := range b.Names.Funs() {
		info, _ := b.Names.Info(f)
		l = append(l, info.Name)
	}
	for _, x := range d.Stack().Assertions() {
		s, _ := show.Text(b, x)
		l = append(l, s)
	}
	v, ok := d.Last()
	if ok {
		l = append(l, "verdict", string(rune('0'+v.Answer)))
	}
	o := d.Stack().Options()
	for _, x := range []bool{o.Success, o.Models, o.Proofs, d.Done()} {
		if x {
			l = append(l, "yes")
		}
	}
	return strings.Join(l, " ") + strings.Repeat("/", d.Stack().Level()) + strings.Repeat("U", len(b.Names.Sorts()))
}

func TestErrorsChangeNothing(t *testing.T) {
	d := begun(t)
	say(t, d, "(assert (or p (< x y)))(push)(define-fun d ((n Int)) Int (+ n 1))(check-sat)")
	before := state(t, d)
	for _, s := range []string{"(assert x)", "(assert (f 1 2))", "(declare-const p Int)", "(declare-fun g (W) Int)", "(define-fun e () Int p)", "(define-fun d () Int 1)", "(pop 2)", "(push 200)", "(set-logic QF_UFIDL)", "(set-option :print-success false)", "(get-value (w))", "(get-proof)", "(declare-sort Int 0)", "(exit 1)", "(push 99999999999999999999)", "7"} {
		if got := say(t, d, s); !strings.HasPrefix(got, "(error ") || state(t, d) != before {
			t.Error(s, got, state(t, d))
		}
	}
}

func TestAskingKeepsTheVerdict(t *testing.T) {
	d := New(nil, 2)
	say(t, d, start+"(assert p)(check-sat)")
	if got := say(t, d, "(get-info :reason-unknown)(get-info :reason-unknown)"); got != "(:reason-unknown budget); (:reason-unknown budget)" {
		t.Error(got)
	}
	d = begun(t)
	say(t, d, "(assert (= x 3))(check-sat)")
	if got := say(t, d, "(get-value (x))(get-value (x))(exit)"); got != "((x 3)); ((x 3)); success" {
		t.Error(got)
	}
	if v, ok := d.Last(); !ok || v.Answer != api.AnswerSat {
		t.Error("after exit", ok)
	}
	d = begun(t)
	say(t, d, "(assert false)(check-sat)")
	if got := say(t, d, "(get-proof)(get-proof)(set-info :a)(get-proof)"); got != "((clause)); ((clause)); success; ((clause))" {
		t.Error(got)
	}
	d = begun(t)
	say(t, d, "(check-sat)")
	if a, b := say(t, d, "(get-model)"), say(t, d, "(get-model)"); a != b || strings.HasPrefix(a, "(error") {
		t.Error(a, b)
	}
}

func TestLastIsACopy(t *testing.T) {
	d := begun(t)
	say(t, d, "(assert (f x u))(assert (= u u))(check-sat)")
	v, _ := d.Last()
	v.World.Sizes[0].Size = 99
	for i, f := range v.World.Funs {
		v.World.Funs[i].Fun = 99
		for k, row := range f.Rows {
			for j := range row.Args {
				row.Args[j].E = 99
			}
			f.Rows[k].Value.E = 99
		}
	}
	if w, _ := d.Last(); !world.May(d.Stack().Book().Names, w.World) {
		t.Error("the world is shared", w.World)
	}
	say(t, d, "(declare-fun g (U) U)(declare-const v U)(assert (or p (= x 4)))(assert (= u v))(assert (or (distinct (g u) (g v)) (distinct x x)))(check-sat)")
	v, _ = d.Last()
	for i, x := range v.Steps {
		v.Steps[i].Kind = 99
		for k := range x.Lits {
			x.Lits[k] = 99
		}
		for k, l := range x.Links {
			for j := range l.List {
				l.List[j] = 99
			}
			x.Links[k].Kind = 99
		}
	}
	w, _ := d.Last()
	right, refutes, e := check.Check(d.Stack().Book().Store, d.Stack().Assertions(), w.Steps)
	if w.Answer != api.AnswerUnsat || right != len(w.Steps) || !refutes || e != api.OK {
		t.Error("the steps are shared", w, right)
	}
}

func TestGetValueLeavesNoTerms(t *testing.T) {
	d := begun(t)
	say(t, d, "(assert (= x 3))(check-sat)")
	length := d.Stack().Book().Store.Len()
	say(t, d, "(get-value ((+ x 77) (f 99 u)))")
	if d.Stack().Book().Store.Len() != length {
		t.Error("terms remain", d.Stack().Book().Store.Len(), length)
	}
}

func TestModelsAndProofs(t *testing.T) {
	d := begun(t)
	got := say(t, d, "(assert (and p (f x u) (not (f y u)) (< y x)))(check-sat)(get-model)(get-value ((f x u) (f y u) p))")
	if !strings.HasPrefix(got, "success; sat; ((define-fun p () Bool ") || !strings.HasSuffix(got, "; (((f x u) true) ((f y u) false) (p true))") {
		t.Error(got)
	}
	v, _ := d.Last()
	b := d.Stack().Book()
	if ok, e := world.Holds(b.Store, v.World, d.Stack().Assertions()...); !ok || e != api.OK || !world.May(b.Names, v.World) {
		t.Error("the world", e)
	}
	v.World.Funs[0].Else.B = !v.World.Funs[0].Else.B
	v.World.Funs[0].Rows = nil
	if w, _ := d.Last(); world.Same(v.World, w.World) {
		t.Error("Last gives out a copy")
	}
	say(t, d, "(assert (= x y))(check-sat)")
	v, _ = d.Last()
	right, refutes, e := check.Check(b.Store, d.Stack().Assertions(), v.Steps)
	if v.Answer != api.AnswerUnsat || right != len(v.Steps) || !refutes || e != api.OK {
		t.Error("the proof", v, right, refutes, e)
	}
	steps, e := proof.ReadAll(trees(t, say(t, d, "(get-proof)"))[0])
	if e != api.OK || !slices.EqualFunc(steps, v.Steps, proof.Same) {
		t.Error("the text of the proof", e)
	}
}

func TestNilAndZero(t *testing.T) {
	x := trees(t, "     (exit)")[0]
	for _, d := range []*Driver{nil, {}} {
		if got := d.Do(x); got != `(error "at 0: not now")` {
			t.Error("Do", got)
		}
		if v, ok := d.Last(); ok || v.Answer != 0 || d.Done() || d.Stack() != nil {
			t.Error("nil or zero")
		}
	}
	seeds := []uint64{1, 2}
	d := New(seeds, 10)
	seeds[0] = 9
	if d.seeds[0] != 1 {
		t.Error("seeds are copied")
	}
}
