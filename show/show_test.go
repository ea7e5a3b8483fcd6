package show

import (
	"math"
	"math/rand"
	"slices"
	"strconv"
	"strings"
	"testing"

	"jurist/api"
	"jurist/elab"
	"jurist/lex"
	"jurist/sorts"
	"jurist/terms"
	"jurist/tree"
)

func read(t *testing.T, s string) api.Tree {
	t.Helper()
	l, _, _ := lex.Tokens([]byte(s))
	x, _, e := tree.Next(l, 0)
	if e != api.OK {
		t.Fatal("tree", s, e)
	}
	return x
}

// book has x 3 and y 4 of Int, p 5 of Bool, then q, a, b, f, g, h and a name with a space.
func book(t *testing.T) *elab.Book {
	t.Helper()
	b := &elab.Book{Names: sorts.New(), Store: terms.New()}
	u, _ := b.Names.DeclareSort("U")
	for _, f := range []api.Fun{
		{Name: "x", Result: 1}, {Name: "y", Result: 1}, {Name: "p"}, {Name: "q"}, {Name: "a", Result: u}, {Name: "b", Result: u}, {Name: "f", Args: []api.Sort{u}, Result: 1},
		{Name: "g", Args: []api.Sort{1, 1}, Result: 1}, {Name: "h", Args: []api.Sort{0}}, {Name: "a b", Result: u}, {Name: "d", Defined: true},
	} {
		if _, e := b.Names.DeclareFun(f); e != api.OK {
			t.Fatal("declare", f, e)
		}
	}
	for _, s := range []string{"x", "y", "p"} {
		elab.Term(b, read(t, s))
	}
	return b
}

func TestText(t *testing.T) {
	for in, want := range map[string]string{
		"true": "true", "false": "false", "0": "0", "(- 7)": "(- 7)", "x": "x", "|a b|": "|a b|", "(+ x 2)": "(+ x 2)", "(- x 2)": "(+ x (- 2))", "(f a)": "(f a)", "(f |a b|)": "(f |a b|)",
		"(< x y)": "(<= (- x y) (- 1))", "(<= x 5)": "(<= x 5)", "(>= x 5)": "(<= (- x) (- 5))", "(<= (- x) 5)": "(<= (- x) 5)", "(= x (- 5))": "(= x (- 5))",
		"(and (not p) (not p))": "(let ((.6 (not p))) (and .6 .6))", "(or p p)": "(or p p)", "(=> p q)": "(or (not p) q)", "(ite p a b)": "(ite p a b)", "(h p)": "(h p)", "(g (- 3) (- 3))": "(g (- 3) (- 3))",
		"(g (+ x 1) (g (+ x 1) y))":                                   "(let ((.6 (+ x 1))) (g .6 (g .6 y)))",
		"(let ((n (g x x))) (g (g n n) (g n n)))":                     "(let ((.6 (g x x))) (let ((.7 (g .6 .6))) (g .7 .7)))",
		"(and (not p) (not (not p)) (h (not p)) (not q) (h (not q)))": "(let ((.6 (not p)) (.10 (not q))) (and .6 (not .6) (h .6) .10 (h .10)))",
		"(let ((n (g x y)) (m (g y x))) (g (g n m) (g n (g n m))))":   "(let ((.6 (g x y))) (let ((.8 (g .6 (g y x)))) (g .8 (g .6 .8))))",
	} {
		b := book(t)
		x, e := elab.Term(b, read(t, in))
		if e != api.OK {
			t.Fatal(in, e)
		}
		if got, e := Text(b, x); got != want || e != api.OK {
			t.Error(in, got, e, "want", want)
		}
	}
}

func TestOffsetsAndForms(t *testing.T) {
	b := book(t)
	x, _ := elab.Term(b, read(t, "  (<= x (- y 5))"))
	got, e := Tree(b, x)
	open := api.Token{Kind: api.TokOpen, Text: "("}
	if e != api.OK || got.Tok != open || got.Kids[1].Tok != open || got.Kids[0].Tok != (api.Token{Kind: api.TokSymbol, Text: "<="}) || got.Kids[2].Kids[1].Tok != (api.Token{Kind: api.TokNumeral, Text: "5"}) {
		t.Error("tokens", got, e)
	}
}

func TestErrors(t *testing.T) {
	b := book(t)
	for _, none := range []*elab.Book{nil, {}, {Names: b.Names}, {Store: b.Store}} {
		if x, e := Tree(none, 0); x.List || e != api.ErrNil {
			t.Error("Tree", e)
		}
		if s, e := Text(none, -1); s != "" || e != api.ErrNil {
			t.Error("Text", e)
		}
	}
	for _, x := range []api.Term{-1, 6, math.MaxInt, math.MinInt} {
		if _, e := Tree(b, x); e != api.ErrNone {
			t.Error("a term that is not there", x, e)
		}
	}
	hidden, _ := b.Store.App(1<<40, 1)
	defined, _ := b.Store.App(10, 0)
	not, _ := b.Store.Not(defined)
	plus, _ := b.Store.Plus(hidden, 1)
	for _, x := range []api.Term{hidden, defined, not, plus} {
		if s, e := Text(b, x); s != "" || e != api.ErrNone {
			t.Error("a function that may not stand there", x, s, e)
		}
	}
	b.Names.Push()
	b.Names.DeclareFun(api.Fun{Name: "k"})
	k, _ := elab.Term(b, read(t, "k"))
	b.Names.Pop(1)
	if _, e := Tree(b, k); e != api.ErrNone {
		t.Error("a function that is gone", e)
	}
	b.Names.DeclareFun(api.Fun{Name: "k"})
	if _, e := Tree(b, k); e != api.ErrNone {
		t.Error("another function of that name", e)
	}
	b.Names.DeclareFun(api.Fun{Name: "a|b"})
	bar, _ := b.Store.App(13, 0)
	if _, e := Tree(b, bar); e != api.OK {
		t.Error("Tree of a name that can't be written", e)
	}
	if _, e := Text(b, bar); e != api.ErrForm {
		t.Error("Text of a name that can't be written", e)
	}
}

func TestDepth(t *testing.T) {
	b := book(t)
	deep := func(n int) api.Term {
		x := api.Term(3)
		for range n {
			x, _ = b.Store.App(7, 1, x, 4)
		}
		return x
	}
	if _, e := Tree(b, deep(200)); e != api.OK {
		t.Error("depth 200", e)
	}
	if x, e := Tree(b, deep(201)); e != api.ErrDeep || x.List {
		t.Error("depth 201", e)
	}
	// Each sharing has a level of its own.
	x := api.Term(3)
	for range 198 {
		x, _ = b.Store.App(7, 1, x, x)
	}
	got, e := Tree(b, x)
	if e != api.OK || tree.Depth(got) != 200 {
		t.Error("197 levels", e, tree.Depth(got))
	}
	for range 2 {
		x, _ = b.Store.App(7, 1, x, x)
	}
	if _, e := Tree(b, x); e != api.ErrDeep {
		t.Error("199 levels", e)
	}
}

func TestWork(t *testing.T) {
	// Reading a tree that is just not too long takes MaxWork trees.
	b := book(t)
	row := func(n, from int) api.Term {
		l := []api.Term{5}
		for i := range n - 1 {
			le, _ := b.Store.Le(3, 4, int64(-1-i-from))
			l = append(l, le)
		}
		x, _ := b.Store.And(l...)
		return x
	}
	// A Le of two variables below 0 has 6 trees.
	build := func(last int) api.Term {
		l := []api.Term{row(1999, 0), row(1300, 1998)}
		l = append(l, slices.Repeat([]api.Term{5}, last)...)
		x, _ := b.Store.Or(l...)
		return x
	}
	fixed := 1 + 2 + 2 + 6*(1998+1299)
	fits := build(api.MaxWork - fixed)
	x, e := Tree(b, fits)
	if e != api.OK {
		t.Fatal("MaxWork trees", e)
	}
	length := b.Store.Len()
	if again, e := elab.Term(b, x); again != fits || e != api.OK || b.Store.Len() != length {
		t.Error("read back", again, e)
	}
	if _, e := Tree(b, build(api.MaxWork-fixed+1)); e != api.ErrLong {
		t.Error("more than MaxWork trees", e)
	}
	deep := build(api.MaxWork - fixed + 1)
	for range 300 {
		deep, _ = b.Store.Not(deep)
	}
	if _, e := Tree(b, deep); e != api.ErrLong {
		t.Error("ErrLong is ahead of ErrDeep", e)
	}
}

// TestCount puts terms of all kinds into a tree that is just not too long, or one longer: layer 7 counts as layer 8 does.
func TestCount(t *testing.T) {
	for in, size := range map[string]int{
		"(= x (- 5))": 4, "(<= x 5)": 3, "(<= x (- 5))": 4, "(<= (- x) 5)": 4, "(<= (- x) (- 5))": 5, "(= (+ x 2) y)": 5, "(= (+ x (- 2)) y)": 6, "(h q)": 2, "(= x 5)": 3, "(= x 0)": 3, "(= a b)": 3, "(ite q p false)": 4, "(not q)": 2,
		"(and (h q) (h q))": 3 + 1 + 2, "(and (not (h q)) (not (h q)))": 3 + 1 + 3, "(and (= x (+ y 1)) (= x (+ y 1)) (= y (+ y 1)))": 4 + 2 + 2 + 3 + 3, "(and (h (not q)) (h (not q)) (not q))": 4 + 2 + 2 + 2,
	} {
		b := book(t)
		x, e := elab.Term(b, read(t, in))
		if e != api.OK {
			t.Fatal(in, e)
		}
		var rows []api.Term
		for k := range 2 {
			l := []api.Term{5}
			for i := range 1650 {
				le, _ := b.Store.Le(3, 4, int64(-1-i-1650*k))
				l = append(l, le)
			}
			row, _ := b.Store.And(l...)
			rows = append(rows, row)
		}
		left := api.MaxWork - 1 - 2*(2+6*1650) - size
		for more, want := range []api.Errno{api.OK, api.ErrLong} {
			all, _ := b.Store.Or(append(append([]api.Term{x}, rows...), slices.Repeat([]api.Term{5}, left+more)...)...)
			y, e := Tree(b, all)
			if e != want {
				t.Error("Tree", in, more, e)
			}
			if again, f := elab.Term(b, y); e == api.OK && (f != api.OK || again != all) {
				t.Error("read back", in, f)
			}
		}
	}
}

func TestLong(t *testing.T) {
	b := book(t)
	long, _ := b.Names.DeclareFun(api.Fun{Name: strings.Repeat("n", 1000)})
	x, _ := b.Store.App(long, 0)
	and, _ := b.Store.And(slices.Repeat([]api.Term{x}, 1100)...)
	if _, e := Tree(b, and); e != api.OK {
		t.Error("Tree", e)
	}
	if s, e := Text(b, and); s != "" || e != api.ErrLong {
		t.Error("Text", len(s), e)
	}
}

func TestNoSharedMemory(t *testing.T) {
	b := book(t)
	x, _ := elab.Term(b, read(t, "(g (- 3) (- 3))"))
	got, _ := Tree(b, x)
	got.Kids[1].Kids[1].Tok.Text = "9"
	if got.Kids[2].Kids[1].Tok.Text != "3" {
		t.Error("two places of a numeral share memory")
	}
}

func TestReadBack(t *testing.T) {
	r := rand.New(rand.NewSource(6))
	b := book(t)
	pick := func(sort api.Sort) api.Term {
		for {
			x := api.Term(r.Intn(b.Store.Len()))
			if n, _ := b.Store.Node(x); n.Sort == sort {
				return x
			}
		}
	}
	elab.Term(b, read(t, "(= a b)"))
	for range 600 {
		switch r.Intn(11) {
		case 0:
			b.Store.Not(pick(0))
		case 1:
			b.Store.And(pick(0), pick(0), pick(0))
		case 2:
			b.Store.Or(pick(0), pick(0))
		case 3:
			s := api.Sort(r.Intn(3))
			b.Store.Eq(pick(s), pick(s))
		case 4:
			s := api.Sort(r.Intn(3))
			b.Store.Ite(pick(0), pick(s), pick(s))
		case 5:
			b.Store.Plus(pick(1), r.Int63n(9)-4)
		case 6:
			b.Store.Le(pick(1), pick(1), r.Int63n(9)-4)
		case 7:
			b.Store.App(6, 1, pick(2))
		case 8:
			b.Store.App(7, 1, pick(1), pick(1))
		case 9:
			b.Store.App(8, 0, pick(0))
		case 10:
			b.Store.Num(r.Int63n(9) - 4)
		}
	}
	length, read := b.Store.Len(), 0
	for i := range length {
		s, e := Text(b, api.Term(i))
		if e == api.ErrLong || e == api.ErrDeep {
			continue
		}
		l, _, _ := lex.Tokens([]byte(s))
		x, _, _ := tree.Next(l, 0)
		if got, f := elab.Term(b, x); e != api.OK || f != api.OK || got != api.Term(i) || b.Store.Len() != length {
			t.Fatal("read back", strconv.Itoa(i), s, e, f, got)
		}
		read++
	}
	if read < length/2 {
		t.Error("few texts", read, length)
	}
}
