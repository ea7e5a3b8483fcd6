package world

import (
	"math"
	"math/rand"
	"slices"
	"testing"

	"jurist/api"
	"jurist/elab"
	"jurist/lex"
	"jurist/sorts"
	"jurist/terms"
	"jurist/tree"
)

func num(n int64) api.Val {
	i := api.Int{Low: n}
	if n < 0 {
		i = api.Int{High: -1, Low: 1<<62 + n}
	}
	return api.Val{Sort: api.Int1, I: i}
}

func is(b bool) api.Val { return api.Val{B: b} }

func elem(e int64) api.Val { return api.Val{Sort: 2, E: e} }

func row(v api.Val, args ...api.Val) api.Row { return api.Row{Args: args, Value: v} }

// setting has the sort U, and x, y of Int, p of Bool, u of U, f from U to Bool, g from Int and Bool to Int, d defined.
func setting(t *testing.T) (*elab.Book, api.World) {
	t.Helper()
	b := &elab.Book{Names: sorts.New(), Store: terms.New()}
	b.Names.DeclareSort("U")
	for _, f := range []api.Fun{{Name: "x", Result: 1}, {Name: "y", Result: 1}, {Name: "p"}, {Name: "d", Defined: true}, {Name: "u", Result: 2}, {Name: "f", Args: []api.Sort{2}}, {Name: "g", Args: []api.Sort{1, 0}, Result: 1}} {
		if _, e := b.Names.DeclareFun(f); e != api.OK {
			t.Fatal("declare", f)
		}
	}
	w := api.World{
		Sizes: []api.Size{{Sort: 2, Size: 2}},
		Funs: []api.Table{
			{Fun: 0, Else: num(3)},
			{Fun: 1, Rows: []api.Row{row(num(-4))}, Else: num(9)},
			{Fun: 2, Else: is(true)},
			{Fun: 4, Else: elem(1)},
			{Fun: 5, Rows: []api.Row{row(is(true), elem(1))}, Else: is(false)},
			{Fun: 6, Rows: []api.Row{row(num(7), num(3), is(true)), row(num(8), num(3), is(true)), row(num(-1), num(3), is(false))}, Else: num(0)},
		},
	}
	return b, w
}

func term(t *testing.T, b *elab.Book, s string) api.Term {
	t.Helper()
	l, _, _ := lex.Tokens([]byte(s))
	x, _, _ := tree.Next(l, 0)
	v, e := elab.Term(b, x)
	if e != api.OK {
		t.Fatal("term", s, e)
	}
	return v
}

func TestValue(t *testing.T) {
	b, w := setting(t)
	if !May(b.Names, w) {
		t.Fatal("the world is valid")
	}
	for in, want := range map[string]api.Val{
		"true": is(true), "false": is(false), "5": num(5), "(- 5)": num(-5), "x": num(3), "y": num(-4), "(+ x 2)": num(5), "(- x 4)": num(-1), "p": is(true), "u": elem(1), "(f u)": is(true),
		"(g 3 true)": num(7), "(g x p)": num(7), "(g x (not p))": num(-1), "(g 4 p)": num(0), "(ite p x y)": num(3), "(ite (not p) x y)": num(-4), "(= x 3)": is(true), "(= x y)": is(false), "(= u u)": is(true), "(= p (= x y))": is(false),
		"(<= (- x y) 7)": is(true), "(<= (- x y) 6)": is(false), "(<= y (- 4))": is(true), "(>= y (- 3))": is(false), "(and p p)": is(true), "(and p (= x y) p)": is(false), "(or (= x y) p)": is(true), "(or (= x y) (= y x))": is(false), "(not p)": is(false),
		"(= (g 4 p) 0)": is(true), "(xor p p p)": is(true), "(=> p (= x y))": is(false), "(distinct x y 3)": is(false), "(distinct x y 4)": is(true), "(< y x 4)": is(true), "(< y x 3)": is(false),
	} {
		x := term(t, b, in)
		if got, e := Value(b.Store, w, x); got != want || e != api.OK {
			t.Error(in, got, e)
		}
		holds, e := Holds(b.Store, w, api.True, x)
		if want.Sort == 0 && (holds != want.B || e != api.OK) || want.Sort != 0 && (holds || e != api.ErrSort) {
			t.Error("Holds", in, holds, e)
		}
	}
	x, y := term(t, b, "x"), term(t, b, "y")
	le, _ := b.Store.Le(x, y, -1)
	w.Funs[1].Rows[0].Value = num(3)
	if got, _ := Value(b.Store, w, le); got.B {
		t.Error("both 3")
	}
}

func TestErrors(t *testing.T) {
	b, w := setting(t)
	x, p := term(t, b, "x"), term(t, b, "p")
	if v, e := Value(nil, w, x); v != (api.Val{}) || e != api.ErrNil {
		t.Error("no store", e)
	}
	if l, e := Values(nil, w); l != nil || e != api.ErrNil {
		t.Error("no store", e)
	}
	if ok, e := Holds(nil, w); ok || e != api.ErrNil {
		t.Error("no store", e)
	}
	for _, none := range []api.Term{-1, api.Term(b.Store.Len()), math.MaxInt, math.MinInt} {
		if v, e := Value(b.Store, w, none); v != (api.Val{}) || e != api.ErrNone {
			t.Error("no term", e)
		}
		if l, e := Values(b.Store, w, x, none); l != nil || e != api.ErrNone {
			t.Error("no term", l, e)
		}
		if ok, e := Holds(b.Store, w, x, none); ok || e != api.ErrNone {
			t.Error("ErrNone is ahead of ErrSort", e)
		}
	}
	hidden, _ := b.Store.App(77, api.Bool)
	or, _ := b.Store.Ite(p, p, hidden)
	if _, e := Value(b.Store, w, or); e != api.ErrNone {
		t.Error("a function without a table", e)
	}
	if ok, e := Holds(b.Store, w, p, x); ok || e != api.ErrSort {
		t.Error("Holds", e)
	}
	if ok, e := Holds(b.Store, w); !ok || e != api.OK {
		t.Error("Holds of nothing", e)
	}
	if l, e := Values(b.Store, w, x, p, x); e != api.OK || !slices.Equal(l, []api.Val{num(3), is(true), num(3)}) {
		t.Error("Values", l, e)
	}
}

func TestWorldsThatAreNotValid(t *testing.T) {
	b, w := setting(t)
	gx := term(t, b, "(g x p)")
	w.Funs[0].Else.I = api.Int{High: -1, Low: 1<<62 + 3}
	w.Funs[5].Rows[0].Args[0].I = api.Int{High: 1, Low: 3 - 1<<62}
	w.Funs[5].Rows[0].Value.I = api.Int{Low: math.MaxInt64}
	w.Funs = append(w.Funs, api.Table{Fun: 0, Else: num(1)})
	if v, _ := Value(b.Store, w, gx); v != (api.Val{Sort: 1, I: api.Int{High: 1, Low: 1<<62 - 1}}) {
		t.Error("integers that are not normal", v)
	}
	if v, _ := Value(b.Store, w, term(t, b, "x")); v != num(3) {
		t.Error("the first table counts", v)
	}
	w.Funs[5].Rows[0].Args = w.Funs[5].Rows[0].Args[:1]
	if v, _ := Value(b.Store, w, gx); v != num(8) {
		t.Error("a row of another length", v)
	}
	w.Funs[0].Else.I = api.Int{High: math.MaxInt64, Low: 5}
	if v, _ := Value(b.Store, w, term(t, b, "(<= (- x y) 9)")); v.B {
		t.Error("a very great difference")
	}
}

func TestMay(t *testing.T) {
	spoil := map[string]func(w *api.World){
		"no sizes":     func(w *api.World) { w.Sizes = nil },
		"size 0":       func(w *api.World) { w.Sizes[0].Size = 0 },
		"size 1":       func(w *api.World) { w.Sizes[0].Size = 1 },
		"other sort":   func(w *api.World) { w.Sizes[0].Sort = 3 },
		"more sizes":   func(w *api.World) { w.Sizes = append(w.Sizes, api.Size{Sort: 3, Size: 1}) },
		"sort twice":   func(w *api.World) { w.Sizes = append(w.Sizes, w.Sizes[0]) },
		"fewer funs":   func(w *api.World) { w.Funs = w.Funs[:5] },
		"more funs":    func(w *api.World) { w.Funs = append(w.Funs, api.Table{Fun: 7}) },
		"defined":      func(w *api.World) { w.Funs[2].Fun = 3 },
		"order":        func(w *api.World) { w.Funs[0], w.Funs[1] = w.Funs[1], w.Funs[0] },
		"arity":        func(w *api.World) { w.Funs[5].Rows[0].Args = w.Funs[5].Rows[0].Args[:1] },
		"arity 0":      func(w *api.World) { w.Funs[0].Rows = []api.Row{row(num(1), num(1))} },
		"arg sort":     func(w *api.World) { w.Funs[5].Rows[0].Args[0] = is(true) },
		"result sort":  func(w *api.World) { w.Funs[5].Rows[0].Value = is(true) },
		"else sort":    func(w *api.World) { w.Funs[5].Else = elem(0) },
		"bool with I":  func(w *api.World) { w.Funs[2].Else.I.Low = 1 },
		"bool with E":  func(w *api.World) { w.Funs[2].Else.E = 1 },
		"int with B":   func(w *api.World) { w.Funs[0].Else.B = true },
		"int with E":   func(w *api.World) { w.Funs[0].Else.E = 1 },
		"not normal":   func(w *api.World) { w.Funs[0].Else.I.Low = -1 },
		"too great":    func(w *api.World) { w.Funs[0].Else.I.High = api.MaxHigh + 1 },
		"too small":    func(w *api.World) { w.Funs[0].Else.I.High = -api.MaxHigh - 1 },
		"elem with B":  func(w *api.World) { w.Funs[3].Else.B = true },
		"elem with I":  func(w *api.World) { w.Funs[3].Else.I.High = 1 },
		"elem below 0": func(w *api.World) { w.Funs[3].Else.E = -1 },
		"elem 2":       func(w *api.World) { w.Funs[3].Else.E = 2 },
		"rows":         func(w *api.World) { w.Funs[2].Rows = slices.Repeat([]api.Row{row(is(true))}, api.MaxRows+1) },
	}
	for what, f := range spoil {
		b, w := setting(t)
		f(&w)
		if May(b.Names, w) {
			t.Error("May", what)
		}
	}
	b, w := setting(t)
	w.Funs[0].Else.I = api.Int{High: api.MaxHigh, Low: 1<<62 - 1}
	w.Funs[1].Else.I = api.Int{High: -api.MaxHigh}
	w.Funs[2].Rows = slices.Repeat([]api.Row{row(is(true))}, api.MaxRows)
	if !May(b.Names, w) || May(nil, w) || May(nil, api.World{}) {
		t.Error("May")
	}
	b, w = setting(t)
	w.Sizes[0].Size, w.Funs[3].Else.E, w.Funs[4].Rows[0].Args[0].E = 1, 0, 0
	if !May(b.Names, w) {
		t.Error("one element")
	}
	b.Names.Push()
	b.Names.DeclareSort("V")
	if May(b.Names, w) {
		t.Error("a sort without a size")
	}
	b.Names.Pop(1)
	if !May(b.Names, w) {
		t.Error("a sort that is gone")
	}
}

func TestSame(t *testing.T) {
	_, a := setting(t)
	_, b := setting(t)
	b.Funs[0].Rows = []api.Row{}
	if !Same(a, b) || !Same(api.World{}, api.World{Sizes: []api.Size{}}) || Same(a, api.World{}) {
		t.Error("Same")
	}
	for i, f := range []func(w *api.World){
		func(w *api.World) { w.Sizes[0].Size++ }, func(w *api.World) { w.Funs[1].Fun = 0 }, func(w *api.World) { w.Funs[1].Else = num(0) }, func(w *api.World) { w.Funs[5].Rows[1].Value = num(0) },
		func(w *api.World) { w.Funs[5].Rows[1].Args[1] = is(false) }, func(w *api.World) { w.Funs[5].Rows = w.Funs[5].Rows[:2] }, func(w *api.World) { r := w.Funs[5].Rows; r[0], r[2] = r[2], r[0] },
	} {
		_, c := setting(t)
		f(&c)
		if Same(a, c) {
			t.Error("Same of another world", i)
		}
	}
}

// TestReplaced checks that a part of the same value may take the place of a part.
func TestReplaced(t *testing.T) {
	b, w := setting(t)
	r := rand.New(rand.NewSource(7))
	atoms := []string{"p", "(f u)", "(= x y)", "(<= x 4)", "(= (g x p) 7)"}
	for range 100 {
		v := num(r.Int63n(5) - 2)
		w.Funs[0].Else = v
		a, c := term(t, b, atoms[r.Intn(5)]), term(t, b, atoms[r.Intn(5)])
		va, _ := Value(b.Store, w, a)
		vc, _ := Value(b.Store, w, c)
		na, _ := b.Store.Not(a)
		nc, _ := b.Store.Not(c)
		x, _ := Value(b.Store, w, na)
		y, _ := Value(b.Store, w, nc)
		if (va == vc) != (x == y) {
			t.Fatal("replaced")
		}
	}
}
