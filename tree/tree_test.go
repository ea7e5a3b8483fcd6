package tree

import (
	"math"
	"math/rand"
	"strings"
	"testing"

	"jurist/api"
	"jurist/lex"
)

func tokens(t *testing.T, s string) []api.Token {
	t.Helper()
	l, _, e := lex.Tokens([]byte(s))
	if e != api.OK {
		t.Fatal("tokens", s, e)
	}
	return l
}

func read(t *testing.T, s string) api.Tree {
	t.Helper()
	x, _, e := Next(tokens(t, s), 0)
	if e != api.OK {
		t.Fatal("tree", s, e)
	}
	return x
}

func nested(n int) string { return strings.Repeat("(", n) + strings.Repeat(")", n) }

func TestNext(t *testing.T) {
	cases := []struct {
		in   string
		from int
		at   int
		e    api.Errno
	}{
		{"(a (b))", 0, 6, api.OK}, {"(a (b))", 1, 2, api.OK}, {"(a (b))", 2, 5, api.OK}, {"(a (b))", 5, 5, api.ErrClose}, {"(a (b))", 6, 6, api.ErrShort},
		{"(a (b))", 7, 7, api.ErrArg}, {"(a (b))", -1, -1, api.ErrArg}, {"", 0, 0, api.ErrShort}, {")", 0, 0, api.ErrClose}, {"(a", 0, 2, api.ErrShort}, {"a (b", 1, 3, api.ErrShort},
		{nested(200) + "a", 0, 400, api.OK}, {nested(201) + "a", 0, 402, api.ErrDeep}, {"(a " + nested(200) + " b) c", 0, 404, api.ErrDeep}, {strings.Repeat("(", 300), 0, 300, api.ErrShort},
		{"a " + nested(1000), 1, 2001, api.ErrDeep},
	}
	for _, c := range cases {
		x, at, e := Next(tokens(t, c.in), c.from)
		if at != c.at || e != c.e {
			t.Errorf("Next(%.20q, %d) = %d, %d", c.in, c.from, at, e)
		}
		if e != api.OK && (x.List || len(x.Kids) > 0 || x.Tok != api.Token{}) {
			t.Error("a tree beside an error", c.in)
		}
	}
	x := read(t, "(a (b) 3)")
	if !x.List || x.Tok != (api.Token{Kind: api.TokOpen, Text: "("}) || len(x.Kids) != 3 || x.Kids[0].Tok.Text != "a" || !x.Kids[1].List || x.Kids[1].Tok.At != 3 || x.Kids[1].Kids[0].Tok.Text != "b" || x.Kids[2].Tok.At != 7 {
		t.Error("Next", x)
	}
	if _, at, e := Next(nil, math.MinInt); at != math.MinInt || e != api.ErrArg {
		t.Error("Next of nothing")
	}
}

func TestDeepListsOfTokens(t *testing.T) {
	// After a list that is too deep, the reading goes on at the right place.
	in := "(" + nested(199) + " x " + nested(200) + " y) z"
	_, at, e := Next(tokens(t, in), 0)
	if e != api.ErrDeep || tokens(t, in)[at].Text != "z" {
		t.Error("after the deep list", at, e)
	}
	x := read(t, "(p "+nested(199)+" x "+nested(199)+" y)")
	if len(x.Kids) != 5 || Depth(x) != 200 || x.Kids[2].Tok.Text != "x" || Depth(x.Kids[3]) != 199 {
		t.Error("the deepest list that may be")
	}
}

func TestAll(t *testing.T) {
	l, at, e := All(tokens(t, "a (b) "+nested(201)+" c"))
	if e != api.OK || at != 407 || len(l) != 4 || !Same(l[2], placeholder()) || l[3].Tok.Text != "c" {
		t.Error("All", len(l), at, e)
	}
	want := api.Tree{List: true, Tok: api.Token{Kind: api.TokOpen, Text: "("}, Kids: []api.Tree{{Tok: api.Token{Kind: api.TokOther, Text: "deep"}}}}
	if !Same(l[2], want) {
		t.Error("the placeholder", l[2])
	}
	if l, at, e := All(tokens(t, "a (b")); len(l) != 1 || at != 1 || e != api.ErrShort {
		t.Error("All of an open list", l, at, e)
	}
	if l, at, e := All(tokens(t, "a b ) c")); len(l) != 2 || at != 2 || e != api.ErrClose {
		t.Error("All with a closing parenthesis", l, at, e)
	}
	if l, at, e := All(nil); len(l) != 0 || at != 0 || e != api.OK {
		t.Error("All of nothing")
	}
}

func TestOwnMemory(t *testing.T) {
	l := tokens(t, "(a b)")
	x, _, _ := Next(l, 0)
	l[1].Text = "z"
	if x.Kids[0].Tok.Text != "a" {
		t.Error("shared with the tokens")
	}
	a, _, _ := All(tokens(t, nested(201)+nested(201)))
	a[0].Kids[0].Tok.Text = "z"
	if a[1].Kids[0].Tok.Text != "deep" {
		t.Error("placeholders share memory")
	}
}

func one(k api.TokenKind, text string) api.Tree { return api.Tree{Tok: api.Token{Kind: k, Text: text}} }

func listOf(kids ...api.Tree) api.Tree {
	return api.Tree{List: true, Tok: api.Token{Kind: api.TokOpen, Text: "("}, Kids: kids}
}

func deepTree(n int) api.Tree {
	x := one(api.TokSymbol, "a")
	for range n {
		x = listOf(x)
	}
	return x
}

func TestText(t *testing.T) {
	good := []struct {
		x    api.Tree
		want string
	}{
		{listOf(one(api.TokSymbol, "a"), one(api.TokSymbol, "b c")), "(a |b c|)"},
		{listOf(), "()"}, {one(api.TokSymbol, ""), "||"}, {one(api.TokSymbol, "1a"), "|1a|"}, {one(api.TokString, `a"|\`), `"a""|\"`}, {one(api.TokKeyword, "k"), ":k"},
		{one(api.TokNumeral, "12"), "12"}, {one(api.TokOther, "1.5"), "1.5"}, {one(api.TokOther, "#xA"), "#xA"}, {listOf(listOf(), listOf()), "(() ())"}, {one(api.TokSymbol, "a;b"), "|a;b|"},
		{api.Tree{List: true, Tok: api.Token{Kind: api.TokOpen, Text: "(", At: 7}}, "()"},
	}
	for _, c := range good {
		if s, e := Text(c.x); s != c.want || e != api.OK {
			t.Error("Text", s, e, c.want)
		}
	}
	bad := []api.Tree{
		{}, one(api.TokOpen, "("), one(api.TokClose, ")"), one(8, "a"), one(api.TokSymbol, "a|b"), one(api.TokSymbol, `a\b`), one(api.TokSymbol, "a\x7f"), one(api.TokSymbol, "\x00"),
		one(api.TokNumeral, "07"), one(api.TokNumeral, ""), one(api.TokNumeral, "1.5"), one(api.TokNumeral, "1 2"), one(api.TokNumeral, " 1"), one(api.TokNumeral, "a"),
		one(api.TokKeyword, ""), one(api.TokKeyword, "a b"), one(api.TokKeyword, ":a"), one(api.TokKeyword, "a;"), one(api.TokOther, "deep"), one(api.TokOther, "1"), one(api.TokOther, "#b2"), one(api.TokOther, ""),
		one(api.TokString, "\x01"), one(api.TokString, "\x7f"), {List: true}, {List: true, Tok: api.Token{Kind: api.TokOpen, Text: "["}}, {List: true, Tok: api.Token{Kind: api.TokClose, Text: "("}},
		{Tok: api.Token{Kind: api.TokSymbol, Text: "a"}, Kids: []api.Tree{one(api.TokSymbol, "b")}},
		placeholder(),
	}
	for _, x := range bad {
		if s, e := Text(x); s != "" || e != api.ErrForm {
			t.Error("Text of a bad tree", x, s, e)
		}
		if _, e := Text(listOf(deepTree(300), x, one(api.TokString, strings.Repeat("a", api.MaxScript)))); e != api.ErrForm {
			t.Error("ErrForm comes first", x, e)
		}
	}
}

func TestTextLimits(t *testing.T) {
	if _, e := Text(deepTree(200)); e != api.OK {
		t.Error("depth 200", e)
	}
	if s, e := Text(deepTree(201)); s != "" || e != api.ErrDeep {
		t.Error("depth 201", e)
	}
	if _, e := Text(deepTree(1 << 16)); e != api.ErrDeep {
		t.Error("very deep", e)
	}
	long := strings.Repeat("a", api.MaxScript)
	if _, e := Text(listOf(deepTree(200), one(api.TokSymbol, long))); e != api.ErrDeep {
		t.Error("ErrDeep is ahead of ErrLong", e)
	}
	for _, c := range []struct {
		x api.Tree
		e api.Errno
	}{
		{one(api.TokSymbol, long), api.OK}, {one(api.TokSymbol, long+"a"), api.ErrLong}, {one(api.TokString, long[2:]), api.OK}, {one(api.TokString, long[1:]), api.ErrLong},
		{one(api.TokString, strings.Repeat(`"`, api.MaxScript/2)), api.ErrLong}, {one(api.TokSymbol, " "+long[3:]), api.OK}, {one(api.TokSymbol, " "+long[2:]), api.ErrLong},
		{one(api.TokSymbol, " "+long+"\x00"), api.ErrForm}, {one(api.TokString, long+"\x00"), api.ErrForm}, {one(api.TokSymbol, "|"+long), api.ErrForm}, {listOf(one(api.TokSymbol, long)), api.ErrLong},
		{one(api.TokSymbol, strings.Repeat(" ", 3*chunk)), api.OK},
		{listOf(one(api.TokSymbol, long[:10]), one(api.TokSymbol, long[13:]), listOf()), api.ErrLong}, {listOf(one(api.TokSymbol, long[:10]), one(api.TokSymbol, long[16:]), listOf()), api.OK}, {listOf(one(api.TokSymbol, long[:10]), one(api.TokSymbol, long[15:]), listOf()), api.ErrLong}, {listOf(one(api.TokSymbol, long[2:])), api.OK}, {listOf(one(api.TokSymbol, long[1:])), api.ErrLong},
	} {
		if _, e := Text(c.x); e != c.e {
			t.Error("Text of a long token", c.x.Tok.Kind, len(c.x.Tok.Text), e, c.e)
		}
	}
}

func TestSameDepth(t *testing.T) {
	a := read(t, "(a (b 1) |c|)")
	b := read(t, "  ( a(b   1) c )")
	if !Same(a, b) || Same(a, read(t, "(a (b 2) c)")) || Same(a, read(t, "(a (b 1) \"c\")")) || Same(a, read(t, "(a b 1 c)")) || Same(read(t, "()"), one(api.TokOpen, "(")) {
		t.Error("Same")
	}
	if Same(one(api.TokSymbol, "a"), api.Tree{Tok: api.Token{Kind: api.TokSymbol, Text: "a"}, Kids: []api.Tree{{}}}) {
		t.Error("Same looks at the elements of tokens")
	}
	for s, want := range map[string]int{"a": 0, "()": 1, "(a)": 1, "(a (b) c)": 2, "((()) ())": 3} {
		if got := Depth(read(t, s)); got != want {
			t.Error("Depth", s, got)
		}
	}
	for _, n := range []int{199, 200, 201, 202, 5000} {
		if got := Depth(deepTree(n)); got != min(n, 201) {
			t.Error("Depth", n, got)
		}
	}
	if Depth(api.Tree{Kids: []api.Tree{deepTree(5)}}) != 0 {
		t.Error("the depth of a token is 0")
	}
}

func TestTextIsReadBack(t *testing.T) {
	r := rand.New(rand.NewSource(4))
	leaves := []api.Tree{one(api.TokSymbol, "a"), one(api.TokSymbol, "x y"), one(api.TokSymbol, ""), one(api.TokNumeral, "0"), one(api.TokString, "q\"\n"), one(api.TokKeyword, "9"), one(api.TokOther, "#b0"), one(api.TokOther, "0.00")}
	var some func(depth int) api.Tree
	some = func(depth int) api.Tree {
		if depth == 0 || r.Intn(3) == 0 {
			return leaves[r.Intn(len(leaves))]
		}
		x := listOf()
		for range r.Intn(4) {
			x.Kids = append(x.Kids, some(depth-1))
		}
		return x
	}
	for range 500 {
		x := some(6)
		s, e := Text(x)
		if e != api.OK {
			t.Fatal("Text", e)
		}
		l := tokens(t, s)
		y, at, e := Next(l, 0)
		if e != api.OK || at != len(l) || !Same(x, y) {
			t.Fatal("read back", s)
		}
	}
}
