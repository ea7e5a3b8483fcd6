package stack

import (
	"math"
	"slices"
	"strings"
	"testing"

	"jurist/api"
	"jurist/lex"
	"jurist/show"
	"jurist/tree"
)

func read(t *testing.T, s string) api.Tree {
	t.Helper()
	l, _, _ := lex.Tokens([]byte(s))
	x, _, e := tree.Next(l, 0)
	if e != api.OK {
		t.Fatal("tree", s, e)
	}
	return x
}

func trees(t *testing.T, l ...string) []api.Tree {
	t.Helper()
	var all []api.Tree
	for _, s := range l {
		all = append(all, read(t, s))
	}
	return all
}

// started has the logic, the sort U, p of Bool, x of Int and f from Int to U.
func started(t *testing.T) *Stack {
	t.Helper()
	s := New()
	for i, e := range []api.Errno{s.Logic(), s.DeclareSort("U"), s.DeclareFun("p", nil, read(t, "Bool")), s.DeclareFun("x", nil, read(t, "Int")), s.DeclareFun("f", trees(t, "Int"), read(t, "U"))} {
		if e != api.OK {
			t.Fatal("start", i, e)
		}
	}
	return s
}

// text is all that a stack says: the visible names and the assertions.
func text(t *testing.T, s *Stack) string {
	t.Helper()
	var l []string
	for _, x := range s.Book().Names.Sorts() {
		n, _ := s.Book().Names.SortName(x)
		l = append(l, n)
	}
	for _, f := range s.Book().Names.Funs() {
		info, _ := s.Book().Names.Info(f)
		l = append(l, info.Name)
	}
	for _, x := range s.Assertions() {
		a, e := show.Text(s.Book(), x)
		if e != api.OK {
			t.Fatal("show", x, e)
		}
		l = append(l, a)
	}
	return strings.Join(l, " ")
}

func TestOptions(t *testing.T) {
	s := New()
	if s.Options() != (api.Options{Success: true}) || s.HasLogic() {
		t.Error("a new stack", s.Options())
	}
	if s.Set(api.Options{Models: true}) != api.OK || s.Options() != (api.Options{Models: true}) {
		t.Error("Set")
	}
	if s.Logic() != api.OK || !s.HasLogic() || s.Logic() != api.ErrTwice {
		t.Error("Logic")
	}
	if s.Set(api.Options{}) != api.ErrLogic || s.Options() != (api.Options{Models: true}) {
		t.Error("Set after Logic")
	}
}

func TestLogicComesFirst(t *testing.T) {
	s := New()
	_, e := s.Term(read(t, "w"))
	for i, e := range []api.Errno{e, s.DeclareSort("Bool"), s.DeclareFun("and", nil, read(t, "3")), s.DefineFun("and", []string{"a"}, nil, read(t, "3"), read(t, "w")), s.Assert(read(t, "w")), s.Push(-1), s.Pop(-1), s.Push(0), s.Pop(0)} {
		if e != api.ErrLogic {
			t.Error("without the logic", i, e)
		}
	}
}

func TestNames(t *testing.T) {
	s := started(t)
	if s.DeclareSort("U") != api.ErrTwice || s.DeclareSort("Int") != api.ErrName || s.DeclareSort("V") != api.OK {
		t.Error("DeclareSort")
	}
	bool1 := read(t, "Bool")
	for _, c := range []struct {
		name   string
		args   []api.Tree
		result api.Tree
		e      api.Errno
	}{
		{"and", trees(t, "W", "3"), bool1, api.ErrNone}, {"and", trees(t, "3", "W"), bool1, api.ErrForm}, {"and", trees(t, "V"), read(t, "W"), api.ErrNone}, {"and", nil, bool1, api.ErrName}, {"p", nil, bool1, api.ErrTwice}, {"g", slices.Repeat(trees(t, "U"), 21), bool1, api.ErrLong}, {"g", slices.Repeat(trees(t, "U"), 20), bool1, api.OK},
	} {
		if e := s.DeclareFun(c.name, c.args, c.result); e != c.e {
			t.Error("DeclareFun", c.name, e, c.e)
		}
	}
	if got := text(t, s); got != "U V p x f g" {
		t.Error("names", got)
	}
}

func TestDefineFun(t *testing.T) {
	s := started(t)
	for _, c := range []struct {
		name         string
		params, args []string
		result, body string
		e            api.Errno
	}{
		{"and", []string{"n"}, nil, "W", "w", api.ErrArg}, {"and", nil, []string{"Int"}, "W", "w", api.ErrArg}, {"and", []string{"n"}, []string{"W"}, "3", "w", api.ErrNone}, {"and", []string{"n"}, []string{"Int"}, "3", "w", api.ErrForm}, {"and", []string{"and"}, []string{"Int"}, "Int", "w", api.ErrName}, {"p", []string{"and"}, []string{"Int"}, "Int", "w", api.ErrTwice},
		{"d", []string{"and"}, []string{"Int"}, "Int", "w", api.ErrName}, {"d", []string{"n", "n"}, []string{"Int", "Int"}, "Int", "w", api.ErrTwice}, {"d", []string{"n"}, []string{"Int"}, "Bool", "w", api.ErrNone}, {"d", []string{"n"}, []string{"Int"}, "Bool", "(d n)", api.ErrNone}, {"d", []string{"n"}, []string{"Int"}, "Bool", "(+ n 1)", api.ErrSort}, {"d", []string{"n"}, []string{"Int"}, "Int", "(+ n x)", api.ErrLinear},
		{"d", []string{"n"}, []string{"Int"}, "Int", "(+ n 1)", api.OK}, {"d", []string{"n"}, []string{"Int"}, "Int", "(+ n 1)", api.ErrTwice}, {"c", nil, nil, "Bool", "(<= x (d 4))", api.OK}, {"e", []string{"p"}, []string{"Bool"}, "Bool", "(not p)", api.OK},
	} {
		before := text(t, s)
		e := s.DefineFun(c.name, c.params, trees(t, c.args...), read(t, c.result), read(t, c.body))
		if e != c.e || e != api.OK && text(t, s) != before {
			t.Error("DefineFun", c.name, c.body, e, c.e)
		}
	}
	s.Assert(read(t, "(e c)"))
	if got := text(t, s); got != "U p x f d c e (not (<= x 5))" {
		t.Error("definitions", got)
	}
	info, _ := s.Book().Names.Info(3)
	if !info.Defined || info.Name != "d" {
		t.Error("Info", info)
	}
}

func TestMacrosAreCopies(t *testing.T) {
	s := started(t)
	params, body := []string{"n"}, read(t, "(+ (- n 1) 2)")
	s.DefineFun("d", params, trees(t, "Int"), read(t, "Int"), body)
	params[0], body.Kids[2].Tok.Text, body.Kids[0].Tok.Text, body.Kids[1].Kids[2].Tok.Text = "m", "7", "-", "9"
	s.Assert(read(t, "(= x (d 1))"))
	if got := text(t, s); got != "U p x f d (= x 2)" {
		t.Error("a macro that was overwritten", got)
	}
}

func TestAssertTerm(t *testing.T) {
	s := started(t)
	for in, want := range map[string]api.Errno{"x": api.ErrSort, "(+ x 77)": api.ErrSort, "w": api.ErrNone, "(f p)": api.ErrSort} {
		if e := s.Assert(read(t, in)); e != want || len(s.Assertions()) != 0 {
			t.Error("Assert", in, e)
		}
	}
	if v, e := s.Term(read(t, "(+ x 1)")); e != api.OK || v == 0 {
		t.Error("Term", v, e)
	}
	if v, e := s.Term(read(t, "(and p (f 1))")); e != api.ErrSort || v != 0 {
		t.Error("Term", v, e)
	}
	s.Assert(read(t, "p"))
	s.Assert(read(t, "(<= x 3)"))
	s.Assert(read(t, "p"))
	if got := text(t, s); got != "U p x f p (<= x 3) p" {
		t.Error("assertions", got)
	}
	s.Assertions()[0] = 99
	if s.Assertions()[0] == 99 {
		t.Error("Assertions gives out a copy")
	}
}

// TestTermsRemain looks at the terms that calls leave behind in the store, whose first three are always there.
func TestTermsRemain(t *testing.T) {
	define := func(params, sorts []string, result, body string) func(*Stack) api.Errno {
		return func(s *Stack) api.Errno {
			return s.DefineFun("d", params, trees(t, sorts...), read(t, result), read(t, body))
		}
	}
	assert := func(x string) func(*Stack) api.Errno {
		return func(s *Stack) api.Errno { return s.Assert(read(t, x)) }
	}
	term := func(x string) func(*Stack) api.Errno {
		return func(s *Stack) api.Errno {
			_, e := s.Term(read(t, x))
			return e
		}
	}
	for i, c := range []struct {
		call  func(*Stack) api.Errno
		e     api.Errno
		terms int
	}{
		{assert("x"), api.ErrSort, 4}, {assert("(f 7)"), api.ErrSort, 5}, {assert("(+ x 77)"), api.ErrSort, 5}, {assert("(and p w)"), api.ErrNone, 4}, {assert("(w p)"), api.ErrNone, 3}, {assert("(not p)"), api.OK, 5},
		{term("(not x)"), api.ErrSort, 4}, {term("(and p (f 1))"), api.ErrSort, 6}, {term("(- x 1 x x)"), api.ErrLinear, 4}, {term("(f (+ x 1))"), api.OK, 6},
		{define(nil, nil, "U", "1"), api.ErrSort, 4}, {define([]string{"n"}, []string{"Int"}, "Bool", "(+ n 1)"), api.ErrSort, 5}, {define([]string{"n"}, []string{"Int"}, "Bool", "(<= n w)"), api.ErrNone, 4}, {define([]string{"n", "n"}, []string{"Int", "Int"}, "Bool", "true"), api.ErrTwice, 3}, {define([]string{"n"}, []string{"Int"}, "Bool", "(<= n x)"), api.OK, 6},
	} {
		s := started(t)
		before := text(t, s)
		if e := c.call(s); e != c.e || s.Book().Store.Len() != c.terms {
			t.Error("call", i, e, s.Book().Store.Len())
		} else if e != api.OK && text(t, s) != before {
			t.Error("an error changed", i, text(t, s))
		}
	}
	// What an error left behind is used again, under its number.
	s := started(t)
	s.Assert(read(t, "(and p (not p) x)"))
	if v, e := s.Term(read(t, "(not p)")); v != 4 || e != api.OK {
		t.Error("(not p)", v, e)
	}
	if v, e := s.Term(read(t, "(f x)")); v != 6 || e != api.OK {
		t.Error("(f x)", v, e)
	}
}

func TestScopes(t *testing.T) {
	s := started(t)
	s.Assert(read(t, "p"))
	before := text(t, s)
	if s.Push(2) != api.OK || s.Level() != 2 || s.Push(-1) != api.ErrArg || s.Push(199) != api.ErrScope || s.Push(math.MaxInt) != api.ErrScope || s.Push(math.MinInt) != api.ErrArg || s.Push(0) != api.OK || s.Level() != 2 {
		t.Error("Push", s.Level())
	}
	s.Assert(read(t, "true"))
	s.DeclareSort("V")
	s.DeclareFun("v", nil, read(t, "V"))
	s.DefineFun("d", []string{"n"}, trees(t, "Int"), read(t, "Int"), read(t, "(+ n 3)"))
	if s.Pop(-1) != api.ErrArg || s.Pop(3) != api.ErrScope || s.Pop(0) != api.OK || s.Pop(math.MaxInt) != api.ErrScope || s.Level() != 2 || len(s.Assertions()) != 2 || len(s.Book().Macros) != 1 {
		t.Error("Pop errors")
	}
	if s.Pop(1) != api.OK || s.Level() != 1 || text(t, s) != before || len(s.Book().Macros) != 0 {
		t.Error("Pop", text(t, s))
	}
	s.Assert(read(t, "(= x 1 2 3)"))
	s.DefineFun("d", nil, nil, read(t, "Int"), read(t, "7"))
	if s.Pop(1) != api.OK || text(t, s) != before || len(s.Book().Macros) != 0 {
		t.Error("what was there before", text(t, s))
	}
	if s.Push(200) != api.OK || s.Push(1) != api.ErrScope || s.Pop(200) != api.OK || s.Level() != 0 {
		t.Error("MaxScopes")
	}
}

// TestTermsRemainAfterPop: a closed scope takes its names and assertions along, but no term.
func TestTermsRemainAfterPop(t *testing.T) {
	term := func(s *Stack, x string) api.Term {
		t.Helper()
		v, e := s.Term(read(t, x))
		if e != api.OK {
			t.Fatal("Term", x, e)
		}
		return v
	}
	s := started(t)
	p := term(s, "p")
	s.Push(2)
	s.DeclareFun("q", nil, read(t, "Bool"))
	s.Assert(read(t, "(or q (not p))"))
	s.Push(1)
	s.DefineFun("d", []string{"n"}, trees(t, "Int"), read(t, "Int"), read(t, "(+ n 3)"))
	s.Assert(read(t, "(= (f 7) (f (d x)))"))
	length := s.Book().Store.Len()
	var nodes []api.Node
	for i := range length {
		n, _ := s.Book().Store.Node(api.Term(i))
		nodes = append(nodes, n)
	}
	not, seven := term(s, "(not p)"), term(s, "(f 7)")
	for _, n := range []int{1, 0, 2} {
		if s.Pop(n) != api.OK || s.Book().Store.Len() != length {
			t.Error("Pop", n, s.Book().Store.Len(), length)
		}
	}
	for i, want := range nodes {
		if n, e := s.Book().Store.Node(api.Term(i)); e != api.OK || n.Op != want.Op || n.Fun != want.Fun || n.Num != want.Num || n.Sort != want.Sort || !slices.Equal(n.Args, want.Args) {
			t.Error("a term is another one", i, n, want)
		}
	}
	if _, e := s.Term(read(t, "q")); e != api.ErrNone {
		t.Error("a name that is gone", e)
	}
	if v := term(s, "(= x 99)"); int(v) != s.Book().Store.Len()-1 || int(v) != length+1 {
		t.Error("a new term's number", v, length)
	}
	if term(s, "(not p)") != not || term(s, "(f 7)") != seven || term(s, "p") != p {
		t.Error("the same construction is the same term")
	}
}

// TestFullAfterPop: a store stays full when a scope is closed; what it has can still be said.
func TestFullAfterPop(t *testing.T) {
	s := started(t)
	s.Push(1)
	s.Assert(read(t, "(not p)"))
	for i := 0; s.Book().Store.Len() < api.MaxTerms; i++ {
		s.Book().Store.App(2, 2, api.Zero, api.Term(i))
	}
	s.Pop(1)
	if e := s.Assert(read(t, "(= x 123456789)")); e != api.ErrFull || len(s.Assertions()) != 0 {
		t.Error("a new term", e)
	}
	if e := s.Assert(read(t, "(not p)")); e != api.OK || len(s.Assertions()) != 1 {
		t.Error("a term that is there", e)
	}
}

func TestNilAndZero(t *testing.T) {
	for _, s := range []*Stack{nil, {}} {
		_, e := s.Term(api.Tree{})
		for i, e := range []api.Errno{e, s.Set(api.Options{}), s.Logic(), s.DeclareSort("U"), s.DeclareFun("f", nil, api.Tree{}), s.DefineFun("f", nil, nil, api.Tree{}, api.Tree{}), s.Assert(api.Tree{}), s.Push(1), s.Pop(1)} {
			if e != api.ErrNil {
				t.Error("nil or zero", i, e)
			}
		}
		if s.Book() != nil || s.Options() != (api.Options{}) || s.HasLogic() || s.Level() != 0 || s.Assertions() != nil {
			t.Error("nil or zero")
		}
	}
}
