package answers

import (
	"math"
	"slices"
	"strings"
	"testing"

	"jurist/api"
	"jurist/elab"
	"jurist/lex"
	"jurist/sorts"
	"jurist/terms"
	"jurist/tree"
	"jurist/world"
)

func num(n int64) api.Val {
	return api.Val{Sort: 1, I: api.Int{High: n >> 62, Low: n & (1<<62 - 1)}}
}

func is(b bool) api.Val { return api.Val{B: b} }

func elem(e int64) api.Val { return api.Val{Sort: 2, E: e} }

// setting is the chapter's example: x of Int, h from U to Bool.
func setting(t *testing.T) (*sorts.Table, api.World) {
	t.Helper()
	x := sorts.New()
	x.DeclareSort("U")
	x.DeclareFun(api.Fun{Name: "x", Result: 1})
	x.DeclareFun(api.Fun{Name: "h", Args: []api.Sort{2}})
	return x, api.World{Sizes: []api.Size{{Sort: 2, Size: 2}}, Funs: []api.Table{{Fun: 0, Else: num(5)}, {Fun: 1, Rows: []api.Row{{Args: []api.Val{elem(1)}, Value: is(true)}}}}}
}

func TestValue(t *testing.T) {
	x, _ := setting(t)
	x.DeclareSort("a b")
	x.DeclareSort("a|b")
	x.Push()
	x.DeclareSort("V")
	x.Pop(1)
	for _, c := range []struct {
		v    api.Val
		want string
		e    api.Errno
	}{
		{is(true), "true", api.OK}, {is(false), "false", api.OK}, {num(0), "0", api.OK}, {num(-3), "(- 3)", api.OK}, {num(math.MinInt64), "(- 9223372036854775808)", api.OK}, {api.Val{Sort: 1, I: api.Int{High: 1}}, "4611686018427387904", api.OK}, {api.Val{Sort: 1, I: api.Int{Low: -7}}, "(- 7)", api.OK}, {api.Val{Sort: 1, I: api.Int{High: 1, Low: -1 << 62}}, "0", api.OK},
		{elem(2), "(as @2 U)", api.OK}, {elem(-1), "(as @-1 U)", api.OK}, {api.Val{Sort: 3, E: 7}, "(as @7 |a b|)", api.OK}, {api.Val{Sort: 4}, "", api.ErrForm}, {api.Val{Sort: 5}, "(as @0 V)", api.OK}, {api.Val{Sort: 6}, "", api.ErrNone}, {api.Val{Sort: -1}, "", api.ErrNone}, {api.Val{Sort: math.MaxInt}, "", api.ErrNone},
		{api.Val{B: true, E: 4, I: api.Int{Low: 3}}, "true", api.OK}, {api.Val{Sort: 1, B: true, E: 4, I: api.Int{Low: 3}}, "3", api.OK}, {api.Val{Sort: 2, B: true, E: 4, I: api.Int{Low: 3}}, "(as @4 U)", api.OK},
	} {
		if s, e := Value(x, c.v); s != c.want || e != c.e {
			t.Error("Value", c.v, s, e)
		}
		if s, e := Value(nil, c.v); s != "" || e != api.ErrNil {
			t.Error("no table", s, e)
		}
	}
}

func read(t *testing.T, s string) api.Tree {
	t.Helper()
	l, _, _ := lex.Tokens([]byte(s))
	x, _, e := tree.Next(l, 0)
	if e != api.OK {
		t.Fatal("tree", s, e)
	}
	return x
}

func TestValues(t *testing.T) {
	x, _ := setting(t)
	asked := []api.Tree{read(t, "x"), read(t, "(+  x |a b| 1)"), read(t, "\"q\"")}
	if s, e := Values(x, asked, []api.Val{num(-1), is(true), elem(0)}); s != `((x (- 1)) ((+ x |a b| 1) true) ("q" (as @0 U)))` || e != api.OK {
		t.Error("Values", s, e)
	}
	if s, e := Values(x, nil, nil); s != "()" || e != api.OK {
		t.Error("nothing", s, e)
	}
	bad, none := api.Tree{}, api.Val{Sort: 77}
	deep := bad
	deep.Tok = api.Token{Kind: api.TokSymbol, Text: "a"}
	for range 201 {
		deep = api.Tree{List: true, Tok: api.Token{Kind: api.TokOpen, Text: "("}, Kids: []api.Tree{deep}}
	}
	for _, c := range []struct {
		asked []api.Tree
		v     []api.Val
		e     api.Errno
	}{{asked, nil, api.ErrArg}, {[]api.Tree{bad}, []api.Val{none, none}, api.ErrArg}, {[]api.Tree{bad, asked[0]}, []api.Val{none, none}, api.ErrForm}, {[]api.Tree{asked[0], bad}, []api.Val{none, none}, api.ErrNone}, {[]api.Tree{deep, bad}, []api.Val{none, none}, api.ErrDeep}, {[]api.Tree{asked[0], deep}, []api.Val{num(1), none}, api.ErrDeep}} {
		if s, e := Values(x, c.asked, c.v); s != "" || e != c.e {
			t.Error("Values", s, e, c.e)
		}
	}
	if s, e := Values(nil, []api.Tree{bad}, nil); s != "" || e != api.ErrNil {
		t.Error("no table", s, e)
	}
}

func TestModel(t *testing.T) {
	x, w := setting(t)
	want := "((define-fun x () Int 5) (define-fun h ((.0 U)) Bool (ite (= .0 (as @1 U)) true false)))"
	if s, e := Model(x, w); s != want || e != api.OK {
		t.Error("Model", s, e)
	}
	if s, e := Model(nil, w); s != "" || e != api.ErrNil {
		t.Error("no table", s, e)
	}
	if s, e := Model(x, api.World{}); s != "" || e != api.ErrArg {
		t.Error("a world that is not valid", s, e)
	}
	if s, e := Model(sorts.New(), api.World{}); s != "()" || e != api.OK {
		t.Error("an empty world", s, e)
	}
	x.DeclareFun(api.Fun{Name: "g g", Args: []api.Sort{1, 0}, Result: 2})
	x.DeclareFun(api.Fun{Name: "d", Defined: true})
	w.Funs[0].Rows = []api.Row{{Value: num(-2)}, {Value: num(3)}}
	w.Funs = append(w.Funs, api.Table{Fun: 2, Rows: []api.Row{{Args: []api.Val{num(1), is(true)}, Value: elem(1)}, {Args: []api.Val{num(-1), is(false)}, Value: elem(0)}}, Else: elem(1)})
	want = "((define-fun x () Int (ite true (- 2) (ite true 3 5))) (define-fun h ((.0 U)) Bool (ite (= .0 (as @1 U)) true false)) (define-fun |g g| ((.0 Int) (.1 Bool)) U (ite (and (= .0 1) (= .1 true)) (as @1 U) (ite (and (= .0 (- 1)) (= .1 false)) (as @0 U) (as @1 U)))))"
	if s, e := Model(x, w); s != want || e != api.OK {
		t.Error("Model", s, e)
	}
	x.DeclareFun(api.Fun{Name: "a|b"})
	w.Funs = append(w.Funs, api.Table{Fun: 4})
	if s, e := Model(x, w); s != "" || e != api.ErrForm {
		t.Error("a name that can't be written", s, e)
	}
}

func TestDifferentWorlds(t *testing.T) {
	// Of valid worlds of the same sizes, just equal ones have the same text.
	var worlds []api.World
	x, _ := setting(t)
	for i := range 64 {
		_, w := setting(t)
		w.Funs[0].Else = num(int64(i%4 - 2))
		w.Funs[1].Else = is(i&4 > 0)
		w.Funs[1].Rows[0].Args[0] = elem(int64(i >> 3 & 1))
		w.Funs[1].Rows[0].Value = is(i&16 > 0)
		if i&32 > 0 {
			w.Funs[1].Rows = nil
		}
		worlds = append(worlds, w)
	}
	for _, a := range worlds {
		for _, b := range worlds {
			s, _ := Model(x, a)
			r, _ := Model(x, b)
			if (s == r) != world.Same(a, b) {
				t.Fatal("texts", s, r)
			}
		}
	}
}

func TestReadBack(t *testing.T) {
	x, w := setting(t)
	b := &elab.Book{Names: x, Store: terms.New()}
	for _, v := range []api.Val{is(true), is(false), num(0), num(-5), num(1<<62 - 1), num(1 - 1<<62)} {
		s, _ := Value(x, v)
		y, e := elab.Term(b, read(t, s))
		if got, _ := world.Value(b.Store, w, y); e != api.OK || got != v {
			t.Error("read back", s, e, got)
		}
	}
}

func TestLongModel(t *testing.T) {
	x, w := setting(t)
	w.Funs[1].Rows = slices.Repeat(w.Funs[1].Rows, api.MaxRows)
	if s, e := Model(x, w); e != api.OK || strings.Count(s, "(ite ") != api.MaxRows {
		t.Error("a long model", len(s), e)
	}
}

func TestAnswerError(t *testing.T) {
	for a, want := range map[api.Answer]string{api.AnswerSat: "sat", api.AnswerUnsat: "unsat", api.AnswerUnknown: "unknown", 0: "unknown", 9: "unknown", 255: "unknown"} {
		if Answer(a) != want {
			t.Error("Answer", a, Answer(a))
		}
	}
	for want, l := range map[string][]api.Errno{
		"wrong form": {api.ErrArg, api.ErrForm, api.ErrArity, api.ErrLong, api.ErrDeep}, "wrong bytes": {api.ErrShort, api.ErrByte, api.ErrQuote, api.ErrClose}, "a number is too great": {api.ErrOverflow}, "a name that does not stand": {api.ErrNone}, "a name that stands already": {api.ErrTwice}, "a name that may not be": {api.ErrName},
		"no room": {api.ErrFull}, "no such scope": {api.ErrScope}, "wrong sort": {api.ErrSort}, "not of difference logic": {api.ErrLinear}, "not at this place": {api.ErrLogic}, "not now": {api.ErrState, api.ErrNil, api.ErrConflict, api.OK, -1, 77},
	} {
		for _, e := range l {
			if s := Error(7, e); s != `(error "at 7: `+want+`")` {
				t.Error("Error", e, s)
			}
		}
	}
	if s := Error(-12, api.ErrSort); s != `(error "at -12: wrong sort")` {
		t.Error("Error", s)
	}
}
