package diff

import (
	"math"
	"slices"
	"testing"

	"jurist/api"
	"jurist/terms"
)

func term(t *testing.T) func(x api.Term, e api.Errno) api.Term {
	return func(x api.Term, e api.Errno) api.Term {
		t.Helper()
		if e != api.OK {
			t.Fatal("error", e)
		}
		return x
	}
}

func TestExample(t *testing.T) {
	s, ok := terms.New(), term(t)
	x := ok(s.App(0, 1))
	x2 := ok(s.Plus(x, 2))
	ok(s.Num(77))
	y := ok(s.App(1, 1))
	le := ok(s.Le(x, y, 5))
	d, e := New(s, le)
	if e != api.OK || d.Len() != 3 {
		t.Fatal("New", e, d.Len())
	}
	if w, fits := d.Weight(); w != 5 || !fits {
		t.Error("Weight", w, fits)
	}
	if b, e := d.Base(1); b != x || e != api.OK {
		t.Error("Base", b, e)
	}
	if b, e := d.Base(0); b != api.Zero || e != api.OK {
		t.Error("Base of 0", b, e)
	}
	if _, _, e := d.Of(x2); e != api.ErrNone {
		t.Error("no part", e)
	}
	if _, _, e := d.Of(le); e != api.ErrSort {
		t.Error("no integer", e)
	}
	f := ok(s.App(2, 1, x2))
	d, _ = New(s, le, f, le)
	if v, o, e := d.Of(x2); v != 1 || o != 2 || e != api.OK {
		t.Error("Of", v, o, e)
	}
	if w, _ := d.Weight(); w != 7 || d.Len() != 4 {
		t.Error("each part is counted once", w, d.Len())
	}
	if got := d.Parts(); !slices.Equal(got, []api.Term{x, x2, y, le, f}) {
		t.Error("Parts", got)
	}
	d.Parts()[0] = 99
	if d.Parts()[0] != x {
		t.Error("Parts gives out a copy")
	}
}

func TestParts(t *testing.T) {
	s, ok := terms.New(), term(t)
	p, u := ok(s.App(0, 0)), ok(s.App(1, 2))
	x := ok(s.App(2, 1))
	n := ok(s.Num(-9))
	ite := ok(s.Ite(p, x, n))
	sum := ok(s.Plus(ite, -3))
	g := ok(s.App(3, 1, sum, u, api.Zero))
	d, _ := New(s, ok(s.Eq(g, x)))
	for _, c := range []struct {
		x      api.Term
		v      int
		offset int64
		e      api.Errno
	}{{p, 0, 0, api.ErrSort}, {u, 0, 0, api.ErrSort}, {x, 1, 0, api.OK}, {n, 0, -9, api.OK}, {ite, 2, 0, api.OK}, {sum, 2, -3, api.OK}, {g, 3, 0, api.OK}, {api.Zero, 0, 0, api.OK}, {api.True, 0, 0, api.ErrNone}, {-1, 0, 0, api.ErrNone}, {math.MaxInt, 0, 0, api.ErrNone}} {
		if v, o, e := d.Of(c.x); v != c.v || o != c.offset || e != c.e {
			t.Error("Of", c.x, v, o, e)
		}
	}
	if w, _ := d.Weight(); w != 12 {
		t.Error("Weight", w)
	}
	for _, v := range []int{-1, 4, math.MinInt} {
		if b, e := d.Base(v); b != 0 || e != api.ErrNone {
			t.Error("Base", v, b, e)
		}
	}
	ok(s.App(9, 1))
	if d.Len() != 4 || len(d.Parts()) != 9 {
		t.Error("a later term changes nothing", d.Len(), len(d.Parts()))
	}
}

func TestWeight(t *testing.T) {
	s, ok := terms.New(), term(t)
	x := ok(s.App(0, 1))
	most := ok(s.Num(-api.MaxNumeral))
	one := ok(s.Num(1))
	d, _ := New(s, most, one)
	if w, fits := d.Weight(); w != 1<<62 || !fits {
		t.Error("2^62", w, fits)
	}
	d, _ = New(s, most, one, ok(s.Le(x, api.Zero, -1)))
	if w, fits := d.Weight(); w != 0 || fits {
		t.Error("more than 2^62", w, fits)
	}
	var l []api.Term
	for i := range 50 {
		l = append(l, ok(s.Num(int64(api.MaxNumeral-i))), ok(s.Plus(x, int64(i-api.MaxNumeral))))
	}
	d, _ = New(s, l...)
	if w, fits := d.Weight(); w != 0 || fits {
		t.Error("far more", w, fits)
	}
	d, _ = New(s, ok(s.App(3, 1, ok(s.Num(3)), ok(s.Num(4)))))
	if w, fits := d.Weight(); w != 7 || !fits {
		t.Error("numerals", w)
	}
}

func TestErrors(t *testing.T) {
	if d, e := New(nil, -1); d != nil || e != api.ErrNil {
		t.Error("no store", e)
	}
	s := terms.New()
	for _, none := range []api.Term{-1, 3, math.MaxInt} {
		if d, e := New(s, 0, none); d != nil || e != api.ErrNone {
			t.Error("no term", e)
		}
	}
	d, e := New(s)
	if w, fits := d.Weight(); e != api.OK || d.Len() != 1 || w != 0 || !fits || len(d.Parts()) != 0 {
		t.Error("the space of nothing")
	}
	for _, none := range []*Space{nil, {}} {
		_, e1 := none.Base(0)
		_, _, e2 := none.Of(0)
		w, fits := none.Weight()
		if e1 != api.ErrNil || e2 != api.ErrNil || none.Len() != 0 || none.Parts() != nil || w != 0 || fits {
			t.Error("nil or zero")
		}
	}
}
