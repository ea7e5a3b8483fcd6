package euf

import (
	"math"
	"math/rand"
	"slices"
	"testing"

	"jurist/api"
	"jurist/clauses"
	"jurist/links"
)

type lits = []api.Lit

// chain is true, false, a, f(a), f(f(a)), with the atoms of the chapter's example.
func chain(t *testing.T) (*Euf, []api.Vertex, []api.Atom) {
	t.Helper()
	v := []api.Vertex{{Fun: api.FunTrue}, {Fun: api.FunFalse}, {Fun: 0}, {Fun: 1, Args: []int{2}}, {Fun: 1, Args: []int{3}}}
	a := []api.Atom{{Kind: api.AtomEq, A: 4, B: 2}, {Kind: api.AtomEq, A: 3, B: 2}, {Kind: api.AtomLe}, {Kind: api.AtomTrue, A: 2}, {}}
	e, err := New(v, a)
	if err != api.OK {
		t.Fatal("New", err)
	}
	return e, v, a
}

// explained checks links that conclude a and b, and whose literals are asserted.
func explained(t *testing.T, v []api.Vertex, a []api.Atom, l []api.Link, from, to int, asserted lits) {
	t.Helper()
	// An equality that is denied closes the certificate.
	more := append(slices.Clone(a), api.Atom{Kind: api.AtomEq, A: from, B: to})
	deny := -api.Lit(len(more))
	got, e := links.Check(v, more, append(slices.Clone(l), api.Link{Kind: api.LinkAgainst, Lit: deny, I: len(l) - 1}))
	if e != api.OK || !clauses.Within(got, append(slices.Clone(asserted), deny)) {
		t.Fatal("links", l, from, to, e, got, asserted)
	}
}

func TestExample(t *testing.T) {
	e, v, a := chain(t)
	if l, err := e.Assert(2); l != nil || err != api.OK || !e.Same(4, 2) || e.Class(4) != 2 || e.Class(0) != 0 {
		t.Error("Assert(2)", err)
	}
	e.Push()
	l, err := e.Assert(-1)
	if got, ok := links.Check(v, a, l); err != api.ErrConflict || ok != api.OK || !slices.Equal(got, lits{-1, 2}) {
		t.Error("Assert(-1)", err, ok, got)
	}
	if !e.Apart(4, 2) || !e.Same(4, 2) {
		t.Error("both equal and different")
	}
	if l, err := e.Assert(3); err != api.ErrConflict || len(l) == 0 {
		t.Error("still in conflict", err)
	}
	if e.Pop(1) != api.OK || e.Apart(4, 2) {
		t.Error("Pop")
	}
	why, err := e.Why(4, 2)
	if err != api.OK {
		t.Fatal("Why", err)
	}
	explained(t, v, a, why, 4, 2, lits{2})
	same, _ := e.Why(3, 3)
	explained(t, v, a, same, 3, 3, nil)
}

func TestErrors(t *testing.T) {
	e, v, a := chain(t)
	for _, l := range []api.Lit{0, 6, -6, math.MaxInt, math.MinInt} {
		if k, err := e.Assert(l); k != nil || err != api.ErrArg {
			t.Error("Assert", l, err)
		}
	}
	for _, n := range []int{-1, 5, math.MaxInt, math.MinInt} {
		if e.Same(n, 2) || e.Same(2, n) || e.Apart(n, 1) || e.Apart(0, n) || e.Class(n) != -1 {
			t.Error("no vertex", n)
		}
		if l, err := e.Why(n, n); l != nil || err != api.ErrNone {
			t.Error("Why", err)
		}
		for _, x := range []api.Atom{{Kind: api.AtomEq, A: n, B: 2}, {Kind: api.AtomEq, A: 2, B: n}, {Kind: api.AtomTrue, A: n}} {
			if e.Add(x) != api.ErrArg {
				t.Error("Add", x)
			}
			if c, err := New(v, append(slices.Clone(a), x)); c != nil || err != api.ErrArg {
				t.Error("New", x)
			}
		}
	}
	if l, err := e.Why(2, 3); l != nil || err != api.ErrNone {
		t.Error("Why", err)
	}
	if _, err := New(v[:1], nil); err != api.ErrArg {
		t.Error("New", err)
	}
	if e.Add(api.Atom{Kind: api.AtomLe, A: 99}) != api.OK || e.Add(api.Atom{Kind: api.AtomEq, A: 2, B: 1}) != api.OK {
		t.Error("Add")
	}
	if _, err := e.Assert(7); err != api.OK || !e.Same(1, 2) || !e.Apart(0, 2) {
		t.Error("an atom that was added", err)
	}
	if e.Pop(1) != api.ErrArg || e.Pop(-1) != api.ErrArg || e.Pop(0) != api.OK || e.Level() != 0 {
		t.Error("Pop")
	}
	e.Push()
	e.Push()
	if e.Level() != 2 || e.Pop(3) != api.ErrArg || e.Pop(2) != api.OK || e.Level() != 0 {
		t.Error("levels")
	}
	for _, none := range []*Euf{nil, {}} {
		none.Push()
		_, e1 := none.Assert(1)
		_, e2 := none.Why(0, 0)
		if none.Add(api.Atom{}) != api.ErrNil || none.Pop(0) != api.ErrNil || e1 != api.ErrNil || e2 != api.ErrNil || none.Same(0, 0) || none.Apart(0, 1) || none.Class(0) != -1 || none.Level() != 0 {
			t.Error("nil or zero")
		}
	}
}

func TestTruth(t *testing.T) {
	e, v, a := chain(t)
	if !e.Apart(0, 1) || e.Apart(0, 0) || e.Apart(2, 1) || e.Same(0, 1) {
		t.Error("true and false")
	}
	e.Assert(4)
	if !e.Same(2, 0) || !e.Apart(2, 1) {
		t.Error("a is true")
	}
	l, err := e.Assert(-4)
	if got, ok := links.Check(v, a, l); err != api.ErrConflict || ok != api.OK || !slices.Equal(got, lits{4, -4}) {
		t.Error("both", err, ok, got)
	}
}

func TestEqualFromTheStart(t *testing.T) {
	v := []api.Vertex{{Fun: api.FunTrue}, {Fun: api.FunFalse}, {Fun: 0}, {Fun: 0}, {Fun: 1, Args: []int{2, 3}}, {Fun: 1, Args: []int{3, 2}}, {Fun: api.FunOther}, {Fun: api.FunOther}, {Fun: 0, Args: []int{2}}, {Fun: 2, Args: []int{9}}, {Fun: 2, Args: []int{10}}}
	a := []api.Atom{{Kind: api.AtomEq, A: 5, B: 4}, {Kind: api.AtomEq, A: 3, B: 3}}
	e, err := New(v, a)
	if err != api.OK || !e.Same(2, 3) || !e.Same(4, 5) || e.Same(6, 7) || e.Same(2, 8) || e.Same(9, 10) || e.Class(5) != 4 {
		t.Fatal("congruent vertices", err)
	}
	why, _ := e.Why(5, 4)
	explained(t, v, a, why, 5, 4, nil)
	e.Push()
	l, err := e.Assert(-1)
	if got, ok := links.Check(v, a, l); err != api.ErrConflict || ok != api.OK || !slices.Equal(got, lits{-1}) {
		t.Error("Assert(-1)", err, ok, got)
	}
	e.Pop(1)
	l, err = e.Assert(-2)
	if got, ok := links.Check(v, a, l); err != api.ErrConflict || ok != api.OK || !slices.Equal(got, lits{-2}) {
		t.Error("Assert(-2)", err, ok, got)
	}
	v[4].Args[0] = 7
	if !e.Same(4, 5) {
		t.Error("the vertices are the closure's own")
	}
}

func TestOwnMemory(t *testing.T) {
	v := []api.Vertex{{Fun: api.FunTrue}, {Fun: api.FunFalse}, {Fun: 0}, {Fun: 1}, {Fun: 2, Args: []int{2}}, {Fun: 2, Args: []int{3}}}
	a := []api.Atom{{Kind: api.AtomEq, A: 2, B: 3}, {Kind: api.AtomEq, A: 4, B: 5}}
	e, _ := New(v, a)
	right, ok := slices.Clone(v), slices.Clone(a)
	right[4].Args, right[5].Args = []int{2}, []int{3}
	v[4].Args[0], v[5].Args[0] = 0, 1
	v[4].Fun, a[0] = 7, api.Atom{Kind: api.AtomTrue, A: 2}
	e.Assert(-2)
	l, err := e.Assert(1)
	if got, f := links.Check(right, ok, l); err != api.ErrConflict || f != api.OK || !slices.Equal(got, lits{1, -2}) {
		t.Error("vertices and atoms are the closure's own", l, err, f)
	}
	l[0] = api.Link{}
	if again, _ := e.Assert(1); again[0].Kind == 0 {
		t.Error("links are the caller's own")
	}
}

// plain is the classes, found in the plainest way.
func plain(v []api.Vertex, a []api.Atom, asserted lits) ([]int, bool) {
	class := make([]int, len(v))
	for i := range class {
		class[i] = i
	}
	join := func(x, y int) {
		from, to := max(class[x], class[y]), min(class[x], class[y])
		for i := range class {
			if class[i] == from {
				class[i] = to
			}
		}
	}
	congruent := func(x, y api.Vertex) bool {
		return x.Fun >= 0 && x.Fun == y.Fun && slices.EqualFunc(x.Args, y.Args, func(p, q int) bool { return class[p] == class[q] })
	}
	for range len(v) + 1 {
		for _, l := range asserted {
			switch x := a[max(l, -l)-1]; {
			case x.Kind == api.AtomEq && l > 0:
				join(x.A, x.B)
			case x.Kind == api.AtomTrue && l > 0:
				join(x.A, 0)
			case x.Kind == api.AtomTrue:
				join(x.A, 1)
			}
		}
		for i := range v {
			for j := range i {
				if congruent(v[i], v[j]) {
					join(i, j)
				}
			}
		}
	}
	conflict := class[0] == class[1]
	for _, l := range asserted {
		if x := a[max(l, -l)-1]; x.Kind == api.AtomEq && l < 0 && class[x.A] == class[x.B] {
			conflict = true
		}
	}
	return class, conflict
}

func random(r *rand.Rand) ([]api.Vertex, []api.Atom) {
	n := 4 + r.Intn(10)
	v := []api.Vertex{{Fun: api.FunTrue}, {Fun: api.FunFalse}}
	for range n {
		x := api.Vertex{Fun: r.Intn(5) - 1}
		if x.Fun == -1 {
			x.Fun = api.FunOther
		}
		for range r.Intn(3) {
			x.Args = append(x.Args, r.Intn(n+2))
		}
		v = append(v, x)
	}
	var a []api.Atom
	for range 12 {
		a = append(a, api.Atom{Kind: []api.AtomKind{1, 1, 1, 3, 2, 0}[r.Intn(6)], A: r.Intn(n + 2), B: r.Intn(n + 2)})
	}
	return v, a
}

func TestAgainstThePlainWay(t *testing.T) {
	r := rand.New(rand.NewSource(18))
	conflicts := 0
	for range 700 {
		v, a := random(r)
		e, err := New(v, a)
		if err != api.OK {
			t.Fatal(err)
		}
		var asserted lits
		var marks []int
		for range 40 {
			switch r.Intn(5) {
			case 0:
				e.Push()
				marks = append(marks, len(asserted))
			case 1:
				if n := r.Intn(len(marks) + 1); n > 0 {
					e.Pop(n)
					asserted = asserted[:marks[len(marks)-n]]
					marks = marks[:len(marks)-n]
				}
			default:
				l := api.Lit(1+r.Intn(len(a))) * api.Lit(1-2*r.Intn(2))
				asserted = append(asserted, l)
				cert, err := e.Assert(l)
				_, conflict := plain(v, a, asserted)
				if conflict != (err == api.ErrConflict) {
					t.Fatal("conflict", conflict, err, asserted)
				}
				if conflict {
					conflicts++
					got, ok := links.Check(v, a, cert)
					if ok != api.OK || !clauses.Within(got, asserted) {
						t.Fatal("certificate", cert, ok, got, asserted)
					}
				}
			}
			compare(t, r, e, v, a, asserted)
			if e.Level() != len(marks) {
				t.Fatal("Level")
			}
		}
	}
	if conflicts < 1000 {
		t.Error("few conflicts", conflicts)
	}
}

// compare fails the test unless the closure is what the plain way finds.
func compare(t *testing.T, r *rand.Rand, e *Euf, v []api.Vertex, a []api.Atom, asserted lits) {
	t.Helper()
	class, _ := plain(v, a, asserted)
	for i := range v {
		if e.Class(i) != class[i] {
			t.Fatal("Class", i, e.Class(i), class[i])
		}
	}
	x, y := r.Intn(len(v)), r.Intn(len(v))
	why, err := e.Why(x, y)
	if e.Same(x, y) != (class[x] == class[y]) || (err == api.OK) != (class[x] == class[y]) {
		t.Fatal("Same", x, y, err)
	}
	if err == api.OK {
		explained(t, v, a, why, x, y, asserted)
	}
	apart := false
	split := func(p, q int) {
		apart = apart || class[p] == class[x] && class[q] == class[y] || class[p] == class[y] && class[q] == class[x]
	}
	split(0, 1)
	for _, l := range asserted {
		if k := a[max(l, -l)-1]; l < 0 && k.Kind == api.AtomEq {
			split(k.A, k.B)
		}
	}
	if e.Apart(x, y) != apart {
		t.Fatal("Apart", x, y, apart)
	}
}

func TestLongChains(t *testing.T) {
	// f^1000(a) is a, and f^999(a) is a: all are equal.
	v := []api.Vertex{{Fun: api.FunTrue}, {Fun: api.FunFalse}, {Fun: 0}}
	for i := range 1000 {
		v = append(v, api.Vertex{Fun: 1, Args: []int{2 + i}})
	}
	a := []api.Atom{{Kind: api.AtomEq, A: 2, B: 1002}, {Kind: api.AtomEq, A: 1001, B: 2}, {Kind: api.AtomEq, A: 3, B: 2}}
	e, _ := New(v, a)
	e.Assert(1)
	e.Push()
	e.Assert(2)
	if !e.Same(2, 500) || e.Class(777) != 2 {
		t.Error("all are equal")
	}
	l, err := e.Assert(-3)
	if got, ok := links.Check(v, a, l); err != api.ErrConflict || ok != api.OK || !slices.Equal(got, lits{1, 2, -3}) {
		t.Error("certificate", err, ok, got, len(l))
	}
	e.Pop(1)
	if e.Same(2, 500) || !e.Same(2, 1002) {
		t.Error("after Pop")
	}
}
