package elab

import (
	"slices"
	"strconv"
	"strings"
	"testing"

	"jurist/api"
	"jurist/lex"
	"jurist/sorts"
	"jurist/terms"
	"jurist/tree"
)

func read(t *testing.T, s string) api.Tree {
	t.Helper()
	l, _, e := lex.Tokens([]byte(s))
	if e != api.OK {
		t.Fatal("tokens", s, e)
	}
	x, _, e := tree.Next(l, 0)
	if e != api.OK {
		t.Fatal("tree", s, e)
	}
	return x
}

// book has the sort U; x, y, z of Int, p, q of Bool, a, b of U; f from Int to U, g from Int and Int to Int, h from U to Bool; the macros inc, pair, loop, two.
func book(t *testing.T) *Book {
	t.Helper()
	b := &Book{Names: sorts.New(), Store: terms.New(), Macros: map[int]api.Macro{}}
	u, _ := b.Names.DeclareSort("U")
	fun := func(name string, result api.Sort, args ...api.Sort) {
		if _, e := b.Names.DeclareFun(api.Fun{Name: name, Args: args, Result: result}); e != api.OK {
			t.Fatal("declare", name, e)
		}
	}
	for _, n := range []string{"x", "y", "z"} {
		fun(n, api.Int1)
	}
	fun("p", api.Bool)
	fun("q", api.Bool)
	fun("a", u)
	fun("b", u)
	fun("f", u, api.Int1)
	fun("g", api.Int1, api.Int1, api.Int1)
	fun("h", api.Bool, u)
	macro := func(name string, result api.Sort, body string, args ...string) {
		sorts := slices.Repeat([]api.Sort{api.Int1}, len(args))
		n, e := b.Names.DeclareFun(api.Fun{Name: name, Args: sorts, Result: result, Defined: true})
		if e != api.OK {
			t.Fatal("define", name, e)
		}
		b.Macros[n] = api.Macro{Params: args, Sorts: sorts, Body: read(t, body)}
	}
	macro("inc", api.Int1, "(+ n 1)", "n")
	macro("gap", api.Int1, "(- m n)", "m", "n")
	macro("loop", api.Int1, "(+ (loop n) 1)", "n")
	macro("two", api.Int1, "2")
	macro("outer", api.Int1, "(+ x 1)", "y")
	return b
}

// draw is a term as text, written out in full.
func draw(s *terms.Store, x api.Term) string {
	n, e := s.Node(x)
	if e != api.OK {
		return "?"
	}
	var l []string
	for _, a := range n.Args {
		l = append(l, draw(s, a))
	}
	args := strings.Join(l, ",")
	switch n.Op {
	case api.OpTrue:
		return "T"
	case api.OpFalse:
		return "F"
	case api.OpNum:
		return strconv.FormatInt(n.Num, 10)
	case api.OpPlus:
		return args + "+" + strconv.FormatInt(n.Num, 10)
	case api.OpApp:
		return "f" + strconv.Itoa(n.Fun) + "(" + args + ")"
	case api.OpIte:
		return "ite(" + args + ")"
	case api.OpEq:
		return "eq(" + args + ")"
	case api.OpLe:
		return "le(" + args + "," + strconv.FormatInt(n.Num, 10) + ")"
	case api.OpNot:
		return "not(" + args + ")"
	case api.OpAnd:
		return "and(" + args + ")"
	}
	return "or(" + args + ")"
}

// short writes the names of a drawing.
var short = strings.NewReplacer("f0()", "x", "f1()", "y", "f2()", "z", "f3()", "p", "f4()", "q", "f5()", "a", "f6()", "b")

const most = "4611686018427387903"

func TestTerms(t *testing.T) {
	for in, want := range map[string]string{
		"true": "T", "false": "F", "5": "5", "0": "0", "x": "x", "p": "p", "a": "a",
		"(<= (+ x 1) y)": "le(x,y,-1)", "(= (- x y) 3)": "eq(x,y+3)", "(let ((p (not p))) (and p p))": "and(not(p),not(p))", "(< 2 3)": "T", "(< 3 3)": "F",
		"(not p)": "not(p)", "(and p q p)": "and(p,q,p)", "(or p q)": "or(p,q)", "(xor p q)": "not(eq(p,q))", "(xor p q p)": "not(eq(not(eq(p,q)),p))",
		"(=> p q)": "or(not(p),q)", "(=> p q false)": "or(not(p),or(not(q),F))", "(ite p a b)": "ite(p,a,b)", "(ite p x 3)": "ite(p,x,3)", "(ite p (+ x 1) (- 3))": "ite(p,x+1,-3)",
		"(= a b)": "eq(a,b)", "(= a b a)": "and(eq(a,b),eq(b,a))", "(= x 3)": "eq(x,3)", "(= 3 (+ x 1))": "eq(3,x+1)", "(= x x)": "eq(x,x)", "(= p q)": "eq(p,q)",
		"(= (+ x 1) (+ y 2))": "eq(x+1,y+2)", "(= (- x y) (- x y))": "eq(0,0)", "(= (- x) (- y 3))": "?", "(= (- x) (- 3))": "eq(0,x+-3)", "(= (+ x y) (+ y 2))": "eq(x,2)", "(= (- x y) (- 5))": "eq(x,y+-5)", "(= 0 (- x 1) (+ x x (- x)))": "and(eq(0,x+-1),eq(x+-1,x))",
		"(distinct a b)": "not(eq(a,b))", "(distinct x y 3)": "and(not(eq(x,y)),not(eq(x,3)),not(eq(y,3)))",
		"(<= x y)": "le(x,y,0)", "(< x y)": "le(x,y,-1)", "(>= x y)": "le(y,x,0)", "(> x y)": "le(y,x,-1)", "(<= x 5)": "le(x,0,5)", "(<= 5 x)": "le(0,x,-5)", "(>= x 5)": "le(0,x,-5)", "(> x 5)": "le(0,x,-6)", "(< x 5)": "le(x,0,4)",
		"(<= (- x y) 3)": "le(x,y,3)", "(< (- x y) (+ z 1 (- z)))": "le(x,y,0)", "(>= (- x y) 3)": "le(y,x,-3)", "(> (- x y) 3)": "le(y,x,-4)", "(<= x y z)": "and(le(x,y,0),le(y,z,0))", "(<= (+ x y) (+ y x))": "T", "(> (- x x) 0)": "F",
		"(+ x 1 2)": "x+3", "(+ 1 (- 1))": "0", "(- 5)": "-5", "(- x 3)": "x+-3", "(- (- x))": "x", "(- x y (- y))": "x", "(- (+ x y z) y z)": "x", "(- (- 0))": "0", "(+ x y (- y) (- 1))": "x+-1",
		"(f x)": "f7(x)", "(f (+ x 0))": "f7(x)", "(g x (- y 2))": "f8(x,y+-2)", "(h (f 3))": "f9(f7(3))", "(<= (g x y) x)": "le(f8(x,y),x,0)",
		"(inc x)": "x+1", "(inc (inc 3))": "5", "two": "2", "(+ two x)": "x+2", "(outer 9)": "x+1", "(let ((x y)) (outer 9))": "x+1", "(gap 7 2)": "5",
		"(let ((.1 x)) .1)": "x", "(let ((x y) (y x)) (g x y))": "f8(y,x)", "(let ((x 1)) (let ((x (+ x 1))) x))": "2", "(let ((x y)) (f (let ((z x)) z)))": "f7(y)", "(let ((n 4) (f x)) (f n))": "f7(4)", "(<= (let ((k x)) (- k y)) 0)": "le(x,y,0)", "(|and| p q)": "and(p,q)",
		"(= (- x y) (- y x))": "?", "(+ " + most + " (- 1))": "4611686018427387902", "(let ((unused (- " + most + "))) x)": "x", "(<= x (- x 1))": "F", "(+ (+ x y) (- (+ x y)))": "0",
	} {
		b := book(t)
		got, e := Term(b, read(t, in))
		if want == "?" {
			if e != api.ErrLinear || got != 0 {
				t.Error(in, got, e)
			}
			continue
		}
		if s := short.Replace(draw(b.Store, got)); e != api.OK || s != want {
			t.Error(in, s, e, "want", want)
		}
	}
}

func TestErrors(t *testing.T) {
	for in, want := range map[string]api.Errno{
		"()": api.ErrForm, "(3 x)": api.ErrForm, "((f) x)": api.ErrForm, "\"s\"": api.ErrForm, ":k": api.ErrForm, "1.5": api.ErrForm, "#b1": api.ErrForm,
		"w": api.ErrNone, "(w ())": api.ErrNone, "(true)": api.ErrNone, "(* x y)": api.ErrNone, "(as x Int)": api.ErrNone, "f": api.ErrArity, "inc": api.ErrArity, "(x)": api.ErrArity, "(two)": api.ErrArity, "(f)": api.ErrArity, "(f x y)": api.ErrArity, "(x 1)": api.ErrArity, "(f () ())": api.ErrArity,
		"4611686018427387904": api.ErrOverflow, "(not)": api.ErrArity, "(not p ())": api.ErrArity, "(and p)": api.ErrArity, "(or ())": api.ErrArity, "(xor p)": api.ErrArity, "(=> p)": api.ErrArity, "(ite p x)": api.ErrArity, "(ite p x x ())": api.ErrArity, "(= x)": api.ErrArity, "(distinct x)": api.ErrArity, "(<= x)": api.ErrArity, "(<)": api.ErrArity, "(>= ())": api.ErrArity, "(> x)": api.ErrArity, "(+ x)": api.ErrArity, "(-)": api.ErrArity,
		"(not x)": api.ErrSort, "(and p x)": api.ErrSort, "(xor p x)": api.ErrSort, "(xor x y)": api.ErrSort, "(=> x p)": api.ErrSort, "(=> p x)": api.ErrSort, "(ite x p p)": api.ErrSort, "(ite p x a)": api.ErrSort, "(= x a)": api.ErrSort, "(= a (- x y))": api.ErrSort, "(= p a)": api.ErrSort, "(distinct x p)": api.ErrSort, "(<= x p)": api.ErrSort, "(< p q)": api.ErrSort, "(>= x p)": api.ErrSort, "(> a x)": api.ErrSort, "(> p q)": api.ErrSort, "(>= a b)": api.ErrSort, "(+ x p)": api.ErrSort, "(- p)": api.ErrSort, "(- x a)": api.ErrSort, "(f p)": api.ErrSort, "(h x)": api.ErrSort, "(inc a)": api.ErrSort,
		"(f (- x y))": api.ErrLinear, "(<= (+ x y) 3)": api.ErrLinear, "(+ x y)": api.ErrLinear, "(- x)": api.ErrLinear, "(+ x x)": api.ErrLinear, "(distinct (- x y) 3)": api.ErrLinear, "(ite p (- x y) 0)": api.ErrLinear, "(<= (+ x x) y)": api.ErrLinear, "(= (+ x x) 4)": api.ErrLinear, "(= (+ x y z) 0)": api.ErrLinear, "(gap x y)": api.ErrLinear, "(+ (gap x y) y)": api.ErrLinear, "(let ((d (- x y))) x)": api.ErrLinear, "(= (- x) y)": api.ErrLinear,
		"(+ " + most + " 1)": api.ErrOverflow, "(+ " + most + " 1 (- 1))": api.ErrOverflow, "(- (- " + most + ") 1)": api.ErrOverflow, "(= (- x y) (+ x x) z)": api.ErrLinear, "(<= (+ x y " + most + ") (- z 1))": api.ErrOverflow, "(<= (+ x " + most + ") (- y 1))": api.ErrOverflow, "(< x (- " + most + "))": api.ErrOverflow, "(> x " + most + ")": api.ErrOverflow, "(+ x y " + most + " 1)": api.ErrOverflow, "(= (+ x y " + most + ") (- z 1))": api.ErrOverflow, "(= (+ x " + most + ") (- y 1))": api.OK,
		"(let ((x 1)))": api.ErrForm, "(let)": api.ErrForm, "(let () x)": api.ErrForm, "(let x x)": api.ErrForm, "(let ((x)) x)": api.ErrForm, "(let ((x 1 2)) x)": api.ErrForm, "(let (x) x)": api.ErrForm, "(let ((1 x)) x)": api.ErrForm, "(let (((x) 1)) x)": api.ErrForm, "(let ((x 1)) x x)": api.ErrForm, "(let ((and 1) (x)) x)": api.ErrForm,
		"(let ((and 1)) x)": api.ErrName, "(let ((@a 1)) x)": api.ErrName, "(let ((true p)) x)": api.ErrName, "(let ((|| 1)) x)": api.ErrName, "(let ((let 1)) x)": api.ErrName, "(let ((n 1) (n 2) (not 1)) x)": api.ErrName, "(let ((n 1) (n 2)) ())": api.ErrTwice, "(let ((.n w) (.n 2)) ())": api.ErrTwice, "(let ((n w)) ())": api.ErrNone, "(let ((n 1)) ())": api.ErrForm, "(let ((n 1) (m n)) m)": api.ErrNone,
		"(and p w x)": api.ErrNone, "(and x w)": api.ErrNone, "(f (+ x y w))": api.ErrNone, "(distinct (- x y) w)": api.ErrLinear, "(= (- x y) w)": api.ErrNone, "(f (loop x))": api.ErrLong, "(<= p w)": api.ErrNone, "(w2 (f))": api.ErrNone,
	} {
		b := book(t)
		if got, e := Term(b, read(t, in)); e != want || e != api.OK && got != 0 {
			t.Error(in, got, e, "want", want)
		}
	}
}

func TestOrderOfCreation(t *testing.T) {
	b := book(t)
	and, _ := Term(b, read(t, "(and (= x 1 y) (=> p q) (<= (- x y) 7))"))
	var l []string
	for i := 3; i < b.Store.Len(); i++ {
		l = append(l, short.Replace(draw(b.Store, api.Term(i))))
	}
	want := "x y 1 eq(x,1) eq(1,y) and(eq(x,1),eq(1,y)) p q not(p) or(not(p),q) le(x,y,7)"
	if got := strings.Join(l[:len(l)-1], " "); got != want || int(and) != b.Store.Len()-1 {
		t.Error("order", got)
	}
	length := b.Store.Len()
	Term(b, read(t, "(and (<= (- x y) 7) (w))"))
	if b.Store.Len() != length {
		t.Error("terms that are there are not made again")
	}
	Term(b, read(t, "(and (f 77) (w 1))"))
	if b.Store.Len() != length+2 {
		t.Error("terms that were made on the way remain")
	}
}

func TestWork(t *testing.T) {
	b := book(t)
	and := func(n int) api.Tree {
		x := read(t, "(and p p)")
		x.Kids = append(x.Kids, slices.Repeat([]api.Tree{x.Kids[1]}, n-3)...)
		return x
	}
	big := read(t, "(or p p)")
	big.Kids = big.Kids[:1]
	for range 10 {
		big.Kids = append(big.Kids, and(1999)) // 10 and a head
	}
	big.Kids = append(big.Kids, and(9)) // together 1 + 19990 + 9
	if _, e := Term(b, big); e != api.OK {
		t.Error("MaxWork trees", e)
	}
	more := big
	more.Kids = append(slices.Clone(big.Kids), read(t, "()"))
	if _, e := Term(b, more); e != api.ErrLong {
		t.Error("more than MaxWork trees", e)
	}
	if _, e := Term(b, and(2002)); e != api.ErrLong {
		t.Error("more than MaxKids", e)
	}
	pairs := func(n int) api.Tree {
		x := read(t, "(distinct)")
		for i := range n {
			x.Kids = append(x.Kids, read(t, strconv.Itoa(i)))
		}
		return x
	}
	if _, e := Term(b, pairs(63)); e != api.OK {
		t.Error("63 apart", e)
	}
	if _, e := Term(b, pairs(64)); e != api.ErrLong {
		t.Error("64 apart", e)
	}
	x := pairs(64)
	x.Kids = append(x.Kids, read(t, "w"))
	if _, e := Term(b, x); e != api.ErrNone {
		t.Error("the errors of the subtrees come first", e)
	}
	deep := read(t, "p")
	for range 19998 {
		deep = api.Tree{List: true, Kids: []api.Tree{read(t, "not"), deep}}
	}
	if _, e := Term(b, deep); e != api.ErrFull {
		t.Error("deep trees fill the store", e)
	}
}

func TestNil(t *testing.T) {
	x := api.Tree{Tok: api.Token{Kind: api.TokSymbol, Text: "true"}}
	for _, b := range []*Book{nil, {}, {Names: sorts.New()}, {Store: terms.New()}} {
		if v, e := Term(b, x); v != 0 || e != api.ErrNil {
			t.Error("Term", e)
		}
		if v, e := Body(b, api.Macro{Params: []string{"a"}}); v != 0 || e != api.ErrNil {
			t.Error("Body", e)
		}
	}
	if v, e := Term(&Book{Names: sorts.New(), Store: terms.New()}, x); v != api.True || e != api.OK {
		t.Error("without macros", v, e)
	}
}

func TestSort(t *testing.T) {
	b := book(t)
	for in, want := range map[string]api.Sort{"Bool": 0, "Int": 1, "U": 2, "|U|": 2} {
		if s, e := Sort(b.Names, read(t, in)); s != want || e != api.OK {
			t.Error("Sort", in, s, e)
		}
	}
	for in, want := range map[string]api.Errno{"x": api.ErrNone, "3": api.ErrForm, "(U)": api.ErrForm, "\"U\"": api.ErrForm} {
		if s, e := Sort(b.Names, read(t, in)); s != 0 || e != want {
			t.Error("Sort", in, s, e)
		}
	}
	if _, e := Sort(nil, read(t, "3")); e != api.ErrForm {
		t.Error("Sort without a table", e)
	}
	if _, e := Sort(nil, read(t, "U")); e != api.ErrNil {
		t.Error("Sort without a table", e)
	}
}

func TestBody(t *testing.T) {
	b := book(t)
	v, e := Body(b, api.Macro{Params: []string{"n", ".u"}, Sorts: []api.Sort{api.Int1, 2}, Body: read(t, "(and (h .u) (<= n x))")})
	if s := short.Replace(draw(b.Store, v)); e != api.OK || s != "and(f9(f1099511627777()),le(f1099511627776(),x,0))" {
		t.Error("Body", s, e)
	}
	for _, c := range []struct {
		m api.Macro
		e api.Errno
	}{
		{api.Macro{Params: []string{"and"}, Body: read(t, "w")}, api.ErrArg}, {api.Macro{Params: []string{"n", "n", "and"}, Sorts: make([]api.Sort, 3)}, api.ErrName},
		{api.Macro{Params: []string{"n", "n"}, Sorts: make([]api.Sort, 2)}, api.ErrTwice}, {api.Macro{Body: read(t, "n")}, api.ErrNone}, {api.Macro{Body: read(t, "(- x y)")}, api.ErrLinear},
		{api.Macro{Params: []string{"n"}, Sorts: []api.Sort{-1}, Body: read(t, "w")}, api.ErrArg}, {api.Macro{Params: []string{"n"}, Sorts: []api.Sort{0}, Body: read(t, "(+ n 1)")}, api.ErrSort}, {api.Macro{}, api.ErrForm},
	} {
		if v, e := Body(b, c.m); v != 0 || e != c.e {
			t.Error("Body", c.m.Params, v, e, c.e)
		}
	}
}

func TestMacrosOfAnotherShape(t *testing.T) {
	b := book(t)
	fun, _ := b.Names.Fun("inc")
	b.Macros[fun] = api.Macro{Params: []string{"n", "k"}, Body: read(t, "k")}
	if _, e := Term(b, read(t, "(inc 3)")); e != api.ErrNone {
		t.Error("a parameter without an argument", e)
	}
	b.Macros[fun] = api.Macro{Body: read(t, "p")}
	if v, e := Term(b, read(t, "(not (inc 3))")); e != api.OK || short.Replace(draw(b.Store, v)) != "not(p)" {
		t.Error("a macro of another sort", v, e)
	}
	delete(b.Macros, fun)
	if v, e := Term(b, read(t, "(inc 3)")); e != api.OK || !strings.HasPrefix(draw(b.Store, v), "f") {
		t.Error("a defined function without a macro", v, e)
	}
}

func TestLongSums(t *testing.T) {
	b := book(t)
	x := read(t, "(- 0)")
	for i := range 6000 {
		n := read(t, "(g 1 "+strconv.Itoa(i%2000)+")")
		x.Kids = append(x.Kids, n)
	}
	if _, e := Term(b, x); e != api.ErrLinear {
		t.Error("a long sum", e)
	}
}
