package build

import (
	"math"
	"math/rand"
	"reflect"
	"slices"
	"testing"

	"jurist/api"
	"jurist/digits"
	"jurist/sorts"
	"jurist/world"
)

func table(t *testing.T, funs ...api.Fun) *sorts.Table {
	t.Helper()
	x := sorts.New()
	x.DeclareSort("U")
	for _, f := range funs {
		if _, e := x.DeclareFun(f); e != api.OK {
			t.Fatal("declare", f, e)
		}
	}
	return x
}

func elem(e int64) api.Val { return api.Val{Sort: 2, E: e} }

var truths = []api.Vertex{{Fun: api.FunTrue, Var: -1}, {Fun: api.FunFalse, Var: -1}}

// example is the chapter's.
func example(t *testing.T) (*sorts.Table, []api.Vertex, api.Full) {
	t.Helper()
	x := table(t, api.Fun{Name: "a", Result: 2}, api.Fun{Name: "b", Result: 2}, api.Fun{Name: "f", Args: []api.Sort{2}, Result: 2})
	v := append(slices.Clone(truths), api.Vertex{Fun: 0, Sort: 2, Var: -1}, api.Vertex{Fun: 1, Sort: 2, Var: -1}, api.Vertex{Fun: 2, Args: []int{2}, Sort: 2, Var: -1})
	return x, v, api.Full{Class: []int{0, 1, 2, 3, 3}}
}

func TestExample(t *testing.T) {
	x, v, f := example(t)
	w, e := World(x, v, f)
	want := api.World{Sizes: []api.Size{{Sort: 2, Size: 2}}, Funs: []api.Table{
		{Fun: 0, Rows: []api.Row{{Value: elem(0)}}, Else: elem(0)}, {Fun: 1, Rows: []api.Row{{Value: elem(1)}}, Else: elem(0)}, {Fun: 2, Rows: []api.Row{{Args: []api.Val{elem(0)}, Value: elem(1)}}, Else: elem(0)},
	}}
	if e != api.OK || !world.Same(w, want) || !world.May(x, w) {
		t.Error("World", w, e)
	}
	for i, want := range []api.Val{{B: true}, {}, elem(0), elem(1), elem(1)} {
		if got, e := Value(v, f, i); got != want || e != api.OK {
			t.Error("Value", i, got, e)
		}
	}
	for _, i := range []int{-1, 5, math.MaxInt, math.MinInt} {
		if got, e := Value(v, f, i); got != (api.Val{}) || e != api.ErrArg {
			t.Error("Value", i, got, e)
		}
	}
}

func TestSorts(t *testing.T) {
	x := table(t, api.Fun{Name: "x", Result: 1}, api.Fun{Name: "d", Defined: true}, api.Fun{Name: "g", Args: []api.Sort{1, 0}, Result: 0}, api.Fun{Name: "unused", Args: []api.Sort{2}, Result: 1}, api.Fun{Name: "p"})
	x.DeclareSort("V")
	v := append(slices.Clone(truths),
		api.Vertex{Fun: 0, Sort: 1, Var: 1},
		api.Vertex{Fun: api.FunOther, Sort: 1, Var: 1, Off: -7},
		api.Vertex{Fun: 4, Var: -1},
		api.Vertex{Fun: 2, Args: []int{3, 4}, Var: -1},
		api.Vertex{Fun: 2, Args: []int{3, 0}, Var: -1},
		api.Vertex{Fun: 2, Args: []int{2, 1}, Var: -1},
		api.Vertex{Fun: api.FunOther, Sort: 3, Var: -1},
	)
	f := api.Full{Class: []int{0, 1, 2, 3, 0, 1, 1, 0, 8}, Vars: []api.Int{{}, {High: 3, Low: 5}}}
	w, e := World(x, v, f)
	big, less := api.Val{Sort: 1, I: api.Int{High: 3, Low: 5}}, api.Val{Sort: 1, I: api.Int{High: 2, Low: 1<<62 - 2}}
	want := api.World{Sizes: []api.Size{{Sort: 2, Size: 1}, {Sort: 3, Size: 1}}, Funs: []api.Table{
		{Fun: 0, Rows: []api.Row{{Value: big}}, Else: api.Val{Sort: 1}},
		{Fun: 2, Rows: []api.Row{{Args: []api.Val{less, {B: true}}}, {Args: []api.Val{big, {}}, Value: api.Val{B: true}}}},
		{Fun: 3, Else: api.Val{Sort: 1}},
		{Fun: 4, Rows: []api.Row{{Value: api.Val{B: true}}}},
	}}
	if e != api.OK || !world.Same(w, want) || !world.May(x, w) {
		t.Errorf("World %+v %d", w, e)
	}
	x.Push()
	x.DeclareFun(api.Fun{Name: "later"})
	x.DeclareSort("W")
	if w, e := World(x, v, f); e != api.OK || len(w.Funs) != 5 || len(w.Sizes) != 3 {
		t.Error("what is visible", e)
	}
	x.Pop(1)
	if w, e := World(x, v, f); e != api.OK || len(w.Funs) != 4 || len(w.Sizes) != 2 {
		t.Error("what is gone", e)
	}
}

func TestErrors(t *testing.T) {
	for what, spoil := range map[string]func(x *sorts.Table, v []api.Vertex, f *api.Full) []api.Vertex{
		"few":       func(x *sorts.Table, v []api.Vertex, f *api.Full) []api.Vertex { return v[:1] },
		"true":      func(x *sorts.Table, v []api.Vertex, f *api.Full) []api.Vertex { v[0].Sort = 2; return v },
		"false":     func(x *sorts.Table, v []api.Vertex, f *api.Full) []api.Vertex { v[1].Sort = 2; return v },
		"arity":     func(x *sorts.Table, v []api.Vertex, f *api.Full) []api.Vertex { v[4].Args = nil; return v },
		"arg sort":  func(x *sorts.Table, v []api.Vertex, f *api.Full) []api.Vertex { v[4].Args = []int{0}; return v },
		"result":    func(x *sorts.Table, v []api.Vertex, f *api.Full) []api.Vertex { v[4].Sort = 0; return v },
		"first fun": func(x *sorts.Table, v []api.Vertex, f *api.Full) []api.Vertex { v[2].Args = []int{2}; return v },
		"no fun":    func(x *sorts.Table, v []api.Vertex, f *api.Full) []api.Vertex { v[4].Fun = 3; return v },
		"great fun": func(x *sorts.Table, v []api.Vertex, f *api.Full) []api.Vertex { v[4].Fun = 1 << 40; return v },
		"sort": func(x *sorts.Table, v []api.Vertex, f *api.Full) []api.Vertex {
			v[4].Fun = api.FunOther
			v[4].Sort = 3
			return v
		},
		"sort -1": func(x *sorts.Table, v []api.Vertex, f *api.Full) []api.Vertex {
			v[4].Fun = api.FunOther
			v[4].Sort = -1
			return v
		},
		"class":    func(x *sorts.Table, v []api.Vertex, f *api.Full) []api.Vertex { f.Class[2] = 5; return v },
		"class -1": func(x *sorts.Table, v []api.Vertex, f *api.Full) []api.Vertex { f.Class[2] = -1; return v },
		"classes":  func(x *sorts.Table, v []api.Vertex, f *api.Full) []api.Vertex { f.Class = f.Class[:4]; return v },
		"no var": func(x *sorts.Table, v []api.Vertex, f *api.Full) []api.Vertex {
			v[4] = api.Vertex{Fun: api.FunOther, Sort: 1, Var: 0}
			return v
		},
		"var -1": func(x *sorts.Table, v []api.Vertex, f *api.Full) []api.Vertex {
			f.Vars = make([]api.Int, 9)
			v[4] = api.Vertex{Fun: api.FunOther, Sort: 1, Var: -1}
			return v
		},
		"an argument": func(x *sorts.Table, v []api.Vertex, f *api.Full) []api.Vertex { v[4].Args = []int{9}; return v },
	} {
		x, v, f := example(t)
		v = spoil(x, v, &f)
		if w, e := World(x, v, f); !reflect.DeepEqual(w, api.World{}) || e != api.ErrArg {
			t.Error("World", what, e)
		}
		if w, e := World(nil, v, f); !reflect.DeepEqual(w, api.World{}) || e != api.ErrNil {
			t.Error("no table", e)
		}
		_, e := Value(v, f, 0)
		if bad := slices.Contains([]string{"few", "class", "class -1", "classes", "no var", "var -1", "an argument"}, what); bad != (e == api.ErrArg) {
			t.Error("Value", what, e)
		}
	}
	x, v, f := example(t)
	x.Push()
	g, _ := x.DeclareFun(api.Fun{Name: "g", Result: 2})
	d, _ := x.DeclareFun(api.Fun{Name: "d", Result: 2, Defined: true})
	v[2].Fun = g
	if _, e := World(x, v, f); e != api.OK {
		t.Error("a function of the scope", e)
	}
	v[2].Fun = d
	if _, e := World(x, v, f); e != api.ErrArg {
		t.Error("a defined function", e)
	}
	v[2].Fun = g
	x.Pop(1)
	if _, e := World(x, v, f); e != api.ErrArg {
		t.Error("a function that is gone", e)
	}
}

func TestRows(t *testing.T) {
	x := table(t, api.Fun{Name: "f", Args: []api.Sort{1}, Result: 1})
	v := slices.Clone(truths)
	f := api.Full{Class: []int{0, 1}, Vars: []api.Int{{}}}
	apply := func(n int) {
		k := len(v)
		v = append(v, api.Vertex{Fun: api.FunOther, Sort: 1, Off: int64(n)}, api.Vertex{Fun: 0, Args: []int{k}, Sort: 1})
		f.Class = append(f.Class, k, k+1)
	}
	for i := range api.MaxRows {
		apply(i)
		if i%4 == 0 {
			apply(i)
		}
	}
	if w, e := World(x, v, f); e != api.OK || len(w.Funs[0].Rows) != api.MaxRows {
		t.Error("MaxRows rows", e)
	}
	apply(api.MaxRows)
	if w, e := World(x, v, f); e != api.ErrFull || w.Funs != nil {
		t.Error("more rows", e)
	}
}

// TestFunctions checks that in the world of a correct arrangement, functions map arguments to values.
func TestFunctions(t *testing.T) {
	r := rand.New(rand.NewSource(21))
	x := table(t, api.Fun{Name: "a", Result: 2}, api.Fun{Name: "b", Result: 2}, api.Fun{Name: "f", Args: []api.Sort{2}, Result: 2}, api.Fun{Name: "n", Args: []api.Sort{2}, Result: 1})
	for range 300 {
		// Classes come from random values of the vertices, so that the arrangement is correct.
		v, f := slices.Clone(truths), api.Full{Vars: []api.Int{{}}}
		image := []int{r.Intn(3), r.Intn(3), r.Intn(3)}
		value := []int{-1, -2}
		for i := range 2 {
			v = append(v, api.Vertex{Fun: i, Sort: 2, Var: -1})
			value = append(value, r.Intn(3))
		}
		for i := 2; i < 6; i++ {
			v = append(v, api.Vertex{Fun: 2, Args: []int{i}, Sort: 2, Var: -1})
			value = append(value, image[value[i]])
		}
		for i := 2; i < 6; i++ {
			f.Vars = append(f.Vars, digits.Of(int64(10*value[i])))
			v = append(v, api.Vertex{Fun: 3, Args: []int{i}, Sort: 1, Var: len(f.Vars) - 1, Off: 3})
			value = append(value, 100+value[i])
		}
		for _, k := range value {
			f.Class = append(f.Class, slices.Index(value, k))
		}
		w, e := World(x, v, f)
		if e != api.OK || !world.May(x, w) {
			t.Fatal("World", e)
		}
		for i, y := range v {
			if y.Fun < 0 {
				continue
			}
			var args []api.Val
			for _, a := range y.Args {
				val, _ := Value(v, f, a)
				args = append(args, val)
			}
			own, _ := Value(v, f, i)
			rows := w.Funs[y.Fun].Rows
			k := slices.IndexFunc(rows, func(r api.Row) bool { return slices.Equal(r.Args, args) })
			if k < 0 || rows[k].Value != own {
				t.Fatal("a row", i, rows, args, own)
			}
		}
	}
}
