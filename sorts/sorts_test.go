package sorts

import (
	"math"
	"slices"
	"strconv"
	"strings"
	"testing"

	"jurist/api"
)

func TestDeclareSort(t *testing.T) {
	x := New()
	if s, e := x.DeclareSort("U"); s != 2 || e != api.OK {
		t.Error("first sort", s, e)
	}
	if s, e := x.DeclareSort("U"); s != 0 || e != api.ErrTwice {
		t.Error("again", s, e)
	}
	for _, name := range []string{"", ".a", "@a", "Bool", "Int", "_", "!", "as", "let", "exists", "forall", "match", "par", "BINARY", "DECIMAL", "HEXADECIMAL", "NUMERAL", "STRING", strings.Repeat("a", 1001)} {
		if s, e := x.DeclareSort(name); s != 0 || e != api.ErrName {
			t.Error("DeclareSort", name, s, e)
		}
	}
	for i, name := range []string{"and", "true", "a.b", " ", "|", strings.Repeat("a", 1000), "u"} {
		if s, e := x.DeclareSort(name); s != api.Sort(3+i) || e != api.OK {
			t.Error("DeclareSort", name, s, e)
		}
	}
}

func TestDeclareFun(t *testing.T) {
	x := New()
	u, _ := x.DeclareSort("U")
	for _, name := range []string{"", ".a", "@x", "true", "false", "not", "and", "or", "xor", "=>", "ite", "=", "distinct", "+", "-", "*", "<=", "<", ">=", ">", "_", "let", "STRING", strings.Repeat("a", 1001)} {
		if f, e := x.DeclareFun(api.Fun{Name: name, Args: make([]api.Sort, 21), Result: 99}); f != 0 || e != api.ErrName {
			t.Error("DeclareFun", name, f, e)
		}
	}
	args := []api.Sort{u, api.Int1, api.Bool}
	if f, e := x.DeclareFun(api.Fun{Name: "U", Args: args, Result: u, Defined: true}); f != 0 || e != api.OK {
		t.Error("a function with a sort's name", f, e)
	}
	args[0] = 77
	info, e := x.Info(0)
	if e != api.OK || info.Name != "U" || !slices.Equal(info.Args, []api.Sort{u, api.Int1, api.Bool}) || info.Result != u || !info.Defined {
		t.Error("Info", info, e)
	}
	info.Args[0] = 55
	if again, _ := x.Info(0); again.Args[0] != u {
		t.Error("Info gives out a copy")
	}
	for _, c := range []struct {
		f api.Fun
		e api.Errno
	}{
		{api.Fun{Name: "U", Args: make([]api.Sort, 21), Result: 99}, api.ErrLong}, {api.Fun{Name: "U", Args: []api.Sort{3}}, api.ErrNone}, {api.Fun{Name: "U", Args: []api.Sort{-1}}, api.ErrNone},
		{api.Fun{Name: "U", Result: 3}, api.ErrNone}, {api.Fun{Name: "U"}, api.ErrTwice}, {api.Fun{Name: "Int", Args: make([]api.Sort, 20)}, api.OK}, {api.Fun{Name: "Bool", Result: math.MinInt}, api.ErrNone},
	} {
		if _, e := x.DeclareFun(c.f); e != c.e {
			t.Error("DeclareFun", c.f, e)
		}
	}
	if f, e := x.Fun("Int"); f != 1 || e != api.OK {
		t.Error("Fun", f, e)
	}
}

func TestFull(t *testing.T) {
	x := New()
	x.Push()
	for i := range api.MaxNames {
		n := strconv.Itoa(i)
		if s, e := x.DeclareSort("s" + n); s != api.Sort(2+i) || e != api.OK {
			t.Fatal("sort", i, s, e)
		}
		if f, e := x.DeclareFun(api.Fun{Name: "f" + n}); f != i || e != api.OK {
			t.Fatal("fun", i, f, e)
		}
	}
	if _, e := x.DeclareSort("s0"); e != api.ErrTwice {
		t.Error("ErrTwice is ahead of ErrFull", e)
	}
	if _, e := x.DeclareFun(api.Fun{Name: "f0"}); e != api.ErrTwice {
		t.Error("ErrTwice is ahead of ErrFull", e)
	}
	x.Pop(1)
	if _, e := x.DeclareSort("s0"); e != api.ErrFull {
		t.Error("all that were ever declared count", e)
	}
	if _, e := x.DeclareFun(api.Fun{Name: "f0"}); e != api.ErrFull {
		t.Error("all that were ever declared count", e)
	}
}

func TestScopes(t *testing.T) {
	x := New()
	x.DeclareSort("U")
	x.DeclareFun(api.Fun{Name: "a"})
	if x.Push() != api.OK || x.Level() != 1 {
		t.Error("Push")
	}
	v, _ := x.DeclareSort("V")
	f, _ := x.DeclareFun(api.Fun{Name: "b", Result: v})
	x.Push()
	x.DeclareFun(api.Fun{Name: "c"})
	if !slices.Equal(x.Sorts(), []api.Sort{2, 3}) || !slices.Equal(x.Funs(), []int{0, 1, 2}) {
		t.Error("visible", x.Sorts(), x.Funs())
	}
	if x.Pop(-1) != api.ErrArg || x.Pop(3) != api.ErrScope || x.Pop(math.MaxInt) != api.ErrScope || x.Pop(0) != api.OK || x.Level() != 2 {
		t.Error("Pop errors")
	}
	if x.Pop(2) != api.OK || x.Level() != 0 {
		t.Error("Pop")
	}
	if _, e := x.Sort("V"); e != api.ErrNone {
		t.Error("V is gone", e)
	}
	if _, e := x.Fun("b"); e != api.ErrNone {
		t.Error("b is gone", e)
	}
	if n, e := x.SortName(v); n != "V" || e != api.OK {
		t.Error("SortName of a sort that is gone", n, e)
	}
	if i, e := x.Info(f); i.Name != "b" || e != api.OK {
		t.Error("Info of a function that is gone", i, e)
	}
	if _, e := x.DeclareFun(api.Fun{Name: "b", Result: v}); e != api.ErrNone {
		t.Error("a sort that is gone", e)
	}
	if s, e := x.DeclareSort("V"); s != 4 || e != api.OK {
		t.Error("declared anew", s, e)
	}
	if !slices.Equal(x.Sorts(), []api.Sort{2, 4}) || !slices.Equal(x.Funs(), []int{0}) {
		t.Error("visible after all", x.Sorts(), x.Funs())
	}
	for range api.MaxScopes {
		x.Push()
	}
	if x.Push() != api.ErrScope || x.Level() != api.MaxScopes {
		t.Error("MaxScopes")
	}
}

func TestLookups(t *testing.T) {
	x := New()
	for name, want := range map[string]api.Sort{"Bool": 0, "Int": 1} {
		if s, e := x.Sort(name); s != want || e != api.OK {
			t.Error("Sort", name, s, e)
		}
		if n, e := x.SortName(want); n != name || e != api.OK {
			t.Error("SortName", n, e)
		}
	}
	for _, s := range []api.Sort{-1, 2, math.MaxInt, math.MinInt} {
		if n, e := x.SortName(s); n != "" || e != api.ErrNone {
			t.Error("SortName", s, n, e)
		}
		if i, e := x.Info(int(s)); i.Name != "" || e != api.ErrNone {
			t.Error("Info", s, e)
		}
	}
	if _, e := x.Fun("and"); e != api.ErrNone {
		t.Error("Fun", e)
	}
}

func TestCopiesGrowApart(t *testing.T) {
	x := New()
	for _, n := range []string{"A", "B", "C"} {
		x.DeclareSort(n)
		x.DeclareFun(api.Fun{Name: n})
		x.Push()
	}
	y := x.Copy()
	for _, c := range []struct {
		t *Table
		n string
	}{{x, "X"}, {y, "Y"}} {
		c.t.DeclareSort(c.n)
		c.t.DeclareFun(api.Fun{Name: c.n})
		c.t.Push()
		c.t.DeclareSort(c.n + "2")
		c.t.DeclareFun(api.Fun{Name: c.n + "2"})
	}
	x.Pop(2)
	if n, _ := x.SortName(5); n != "X" {
		t.Error("the table's names", n)
	}
	x.DeclareSort("Z")
	x.DeclareFun(api.Fun{Name: "Z"})
	x.Push()
	if i, _ := x.Info(3); i.Name != "X" {
		t.Error("the table's functions", i)
	}
	if n, _ := y.SortName(5); n != "Y" || !slices.Equal(y.Sorts(), []api.Sort{2, 3, 4, 5, 6}) || !slices.Equal(y.Funs(), []int{0, 1, 2, 3, 4}) {
		t.Error("the copy", n, y.Sorts(), y.Funs())
	}
	if y.Pop(1); !slices.Equal(y.Sorts(), []api.Sort{2, 3, 4, 5}) || y.Level() != 3 {
		t.Error("the copy's scopes", y.Sorts())
	}
	f := x.Funs()
	f[0] = 9
	if x.Funs()[0] != 0 {
		t.Error("Funs gives out a copy")
	}
}

func TestNumbersAtTheEdge(t *testing.T) {
	x := New()
	x.DeclareSort("U")
	x.DeclareFun(api.Fun{Name: "f"})
	if n, e := x.SortName(2); n != "U" || e != api.OK {
		t.Error("SortName", n, e)
	}
	if i, e := x.Info(0); i.Name != "f" || e != api.OK {
		t.Error("Info", i, e)
	}
	if _, e := x.SortName(3); e != api.ErrNone {
		t.Error("SortName", e)
	}
	if _, e := x.Info(1); e != api.ErrNone {
		t.Error("Info", e)
	}
	if s, e := x.Sort("f"); s != 0 || e != api.ErrNone {
		t.Error("Sort", s, e)
	}
	if f, e := x.Fun("U"); f != 0 || e != api.ErrNone {
		t.Error("Fun", f, e)
	}
	for _, z := range []*Table{nil, {}} {
		a, _ := z.DeclareSort("U")
		b, _ := z.DeclareFun(api.Fun{Name: "f"})
		c, _ := z.Sort("U")
		d, _ := z.Fun("f")
		if a != 0 || b != 0 || c != 0 || d != 0 {
			t.Error("a number beside an error", a, b, c, d)
		}
	}
}

func TestCopy(t *testing.T) {
	x := New()
	x.DeclareSort("U")
	x.Push()
	x.DeclareFun(api.Fun{Name: "a", Args: []api.Sort{2}})
	y := x.Copy()
	y.DeclareSort("V")
	y.DeclareFun(api.Fun{Name: "b"})
	if _, e := x.Sort("V"); e != api.ErrNone {
		t.Error("the copy's sort")
	}
	x.Pop(1)
	if f, e := y.Fun("a"); f != 0 || e != api.OK || y.Level() != 1 {
		t.Error("the copy stays")
	}
	x.DeclareSort("W")
	if n, _ := y.SortName(3); n != "V" {
		t.Error("the copy's names", n)
	}
	if y.Pop(1) != api.OK || len(y.Funs()) != 0 || !slices.Equal(y.Sorts(), []api.Sort{2}) {
		t.Error("the copy's scopes")
	}
	s := y.Sorts()
	s[0] = 9
	if y.Sorts()[0] != 2 {
		t.Error("Sorts gives out a copy")
	}
}

func TestNilAndZero(t *testing.T) {
	for _, x := range []*Table{nil, {}} {
		_, e1 := x.DeclareSort("U")
		_, e2 := x.DeclareFun(api.Fun{Name: "f"})
		_, e3 := x.Sort("Bool")
		_, e4 := x.Fun("f")
		_, e5 := x.SortName(0)
		_, e6 := x.Info(0)
		for i, e := range []api.Errno{e1, e2, e3, e4, e5, e6, x.Push(), x.Pop(0)} {
			if e != api.ErrNil {
				t.Error("nil or zero", i, e)
			}
		}
		if x.Sorts() != nil || x.Funs() != nil || x.Level() != 0 || x.Copy() != nil {
			t.Error("nil or zero")
		}
	}
}
