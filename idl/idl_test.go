package idl

import (
	"math"
	"math/big"
	"math/rand"
	"slices"
	"testing"

	"jurist/api"
	"jurist/clauses"
	"jurist/cycles"
	"jurist/digits"
)

type lits = []api.Lit

func le(x, y int, c int64) api.Atom { return api.Atom{Kind: api.AtomLe, A: x, B: y, C: c} }

func net(t *testing.T, vars int, a ...api.Atom) *Net {
	t.Helper()
	n, e := New(vars, a)
	if e != api.OK {
		t.Fatal("New", e)
	}
	return n
}

func TestExample(t *testing.T) {
	a := []api.Atom{le(1, 0, 2), le(2, 1, -1), le(0, 2, -2)}
	n := net(t, 3, a...)
	for _, l := range (lits{1, 2}) {
		if c, e := n.Assert(l); c != nil || e != api.OK {
			t.Error("Assert", l, c, e)
		}
	}
	if c, ok := n.Implies(-3); !ok || !slices.Equal(c, lits{2, 1}) && !slices.Equal(c, lits{1, 2}) {
		t.Error("Implies(-3)", c, ok)
	} else if _, e := cycles.Check(a, append(c, 3)); e != api.OK {
		t.Error("the certificate", c)
	}
	if c, ok := n.Implies(3); ok || c != nil {
		t.Error("Implies(3)", c)
	}
	c, e := n.Assert(3)
	if got, ok := cycles.Check(a, c); e != api.ErrConflict || ok != api.OK || !slices.Equal(got, lits{1, 2, 3}) {
		t.Error("Assert(3)", c, e, ok)
	}
	if c, e := n.Assert(-1); e != api.ErrConflict || len(c) != 3 || n.Value(1) != (api.Int{}) {
		t.Error("still in conflict", c, e)
	}
	if c, ok := n.Implies(1); ok || c != nil {
		t.Error("Implies in a conflict")
	}
	n = net(t, 3, le(1, 0, -5), le(2, 2, -1))
	n.Assert(1)
	n.Push()
	if n.Assert(2); n.Value(1) != (api.Int{}) {
		t.Error("Value in a conflict", n.Value(1))
	}
	if n.Pop(1); digits.Write(n.Value(1)) != "-5" {
		t.Error("Value after a conflict", n.Value(1))
	}
}

func TestErrors(t *testing.T) {
	for _, vars := range []int{0, -1, api.MaxVertices + 1, math.MinInt} {
		if n, e := New(vars, nil); n != nil || e != api.ErrArg {
			t.Error("New", vars, e)
		}
	}
	for _, a := range []api.Atom{le(2, 0, 1), le(0, 2, 1), le(-1, 0, 1), le(0, math.MinInt, 1)} {
		if n, e := New(2, []api.Atom{a}); n != nil || e != api.ErrArg {
			t.Error("New", a, e)
		}
		if net(t, 2).Add(a) != api.ErrArg {
			t.Error("Add", a)
		}
	}
	n := net(t, api.MaxVertices, api.Atom{Kind: api.AtomEq, A: -5}, le(1, 0, -1))
	for _, l := range (lits{0, 3, -3, math.MinInt, math.MaxInt}) {
		if c, e := n.Assert(l); c != nil || e != api.ErrArg {
			t.Error("Assert", l, e)
		}
		if c, ok := n.Implies(l); c != nil || ok {
			t.Error("Implies", l)
		}
	}
	if _, ok := n.Implies(1); ok {
		t.Error("Implies of another atom")
	}
	if _, e := n.Assert(-1); e != api.OK {
		t.Error("a literal without a meaning", e)
	}
	if n.Add(le(0, 1, 0)) != api.OK || n.Add(api.Atom{Kind: api.AtomTrue, A: 99}) != api.OK {
		t.Error("Add")
	}
	n.Push()
	n.Push()
	if n.Level() != 2 || n.Pop(3) != api.ErrArg || n.Pop(-1) != api.ErrArg || n.Pop(math.MinInt) != api.ErrArg || n.Pop(0) != api.OK || n.Level() != 2 || n.Pop(2) != api.OK || n.Level() != 0 {
		t.Error("levels")
	}
	n.Assert(2)
	if _, e := n.Assert(3); e != api.ErrConflict && n.Value(1) == (api.Int{}) {
		t.Error("an atom that was added", e)
	}
	for _, x := range []int{-1, api.MaxVertices, math.MinInt} {
		if n.Value(x) != (api.Int{}) {
			t.Error("Value", x)
		}
	}
	for _, none := range []*Net{nil, {}} {
		none.Push()
		c, e := none.Assert(1)
		_, ok := none.Implies(1)
		if none.Add(api.Atom{}) != api.ErrNil || none.Pop(0) != api.ErrNil || c != nil || e != api.ErrNil || none.Value(0) != (api.Int{}) || ok || none.Level() != 0 {
			t.Error("nil or zero")
		}
	}
}

func TestLoops(t *testing.T) {
	a := []api.Atom{le(1, 1, 0), le(1, 1, -1)}
	n := net(t, 2, a...)
	if c, ok := n.Implies(1); !ok || len(c) != 0 {
		t.Error("x - x is at most 0", c, ok)
	}
	if c, ok := n.Implies(-2); !ok || len(c) != 0 {
		t.Error("x - x is not at most -1", c, ok)
	}
	if _, ok := n.Implies(2); ok {
		t.Error("Implies(2)")
	}
	n.Push()
	if c, e := n.Assert(2); e != api.ErrConflict || !slices.Equal(c, lits{2}) {
		t.Error("Assert(2)", c, e)
	}
	n.Pop(1)
	if _, e := n.Assert(1); e != api.OK {
		t.Error("Assert(1)", e)
	}
}

func TestGreatBounds(t *testing.T) {
	const vars = 5
	var a []api.Atom
	for i := 1; i < vars; i++ {
		a = append(a, le(i, i-1, math.MinInt64), le(i, i-1, math.MaxInt64))
	}
	a = append(a, le(0, 4, math.MaxInt64))
	n := net(t, vars, a...)
	for i := range 4 {
		n.Assert(api.Lit(2*i + 1))
	}
	if got := digits.Write(n.Value(4)); got != "-36893488147419103232" {
		t.Error("a great value", got)
	}
	c, e := n.Assert(9)
	if _, ok := cycles.Check(a, c); e != api.ErrConflict || ok != api.OK || len(c) != 5 {
		t.Error("a great cycle", c, e)
	}
}

func TestValuesDoNotDrift(t *testing.T) {
	n := net(t, 3, le(1, 2, math.MinInt64), le(2, 1, math.MinInt64), le(0, 1, 0))
	for range 1000 {
		for l := range 2 {
			n.Push()
			n.Assert(api.Lit(l + 1))
			n.Pop(1)
		}
	}
	if n.Value(1) != (api.Int{}) || n.Value(2) != (api.Int{}) {
		t.Error("after Pop", n.Value(1), n.Value(2))
	}
}

// distances are the least bounds of the differences, by the plainest way, and whether there is a conflict.
func distances(vars int, a []api.Atom, asserted lits) ([][]*big.Int, bool) {
	d := make([][]*big.Int, vars)
	for x := range d {
		d[x] = make([]*big.Int, vars)
		d[x][x] = big.NewInt(0)
	}
	lower := func(x, y int, c *big.Int) {
		if d[x][y] == nil || c.Cmp(d[x][y]) < 0 {
			d[x][y] = c
		}
	}
	for _, l := range asserted {
		if edge, e := cycles.Of(a, l); e == api.OK {
			lower(edge.X, edge.Y, big.NewInt(edge.C))
		}
	}
	for k := range vars {
		for x := range vars {
			for y := range vars {
				if d[x][k] != nil && d[k][y] != nil {
					lower(x, y, new(big.Int).Add(d[x][k], d[k][y]))
				}
			}
		}
	}
	for x := range d {
		if d[x][x].Sign() < 0 {
			return d, true
		}
	}
	return d, false
}

func value(a api.Int) *big.Int {
	v := new(big.Int).Lsh(big.NewInt(a.High), 62)
	return v.Add(v, big.NewInt(a.Low))
}

func TestAgainstThePlainWay(t *testing.T) {
	r := rand.New(rand.NewSource(19))
	conflicts, implied := 0, 0
	for round := range 500 {
		vars := 1 + r.Intn(6)
		var a []api.Atom
		for range 12 {
			c := r.Int63n(11) - 5
			if round%5 == 0 {
				c = int64(r.Uint64())
			}
			a = append(a, le(r.Intn(vars), r.Intn(vars), c))
		}
		a = append(a, api.Atom{Kind: api.AtomEq, A: 9})
		n := net(t, vars, a...)
		var asserted lits
		var marks []int
		for range 40 {
			switch r.Intn(5) {
			case 0:
				n.Push()
				marks = append(marks, len(asserted))
			case 1:
				if k := r.Intn(len(marks) + 1); k > 0 {
					n.Pop(k)
					asserted = asserted[:marks[len(marks)-k]]
					marks = marks[:len(marks)-k]
				}
			default:
				l := api.Lit(1+r.Intn(len(a))) * api.Lit(1-2*r.Intn(2))
				asserted = append(asserted, l)
				c, e := n.Assert(l)
				_, conflict := distances(vars, a, asserted)
				if conflict != (e == api.ErrConflict) || !conflict && e != api.OK {
					t.Fatal("conflict", conflict, e)
				}
				if conflict {
					conflicts++
					if _, ok := cycles.Check(a, c); ok != api.OK || !clauses.Within(c, asserted) {
						t.Fatal("certificate", c, ok)
					}
				}
			}
			if compare(t, r, n, vars, a, asserted) {
				implied++
			}
		}
	}
	if conflicts < 1000 || implied < 1000 {
		t.Error("few conflicts or implied literals", conflicts, implied)
	}
}

// compare fails the test unless the net agrees with the plain way; it tells whether a random literal is implied.
func compare(t *testing.T, r *rand.Rand, n *Net, vars int, a []api.Atom, asserted lits) bool {
	t.Helper()
	d, conflict := distances(vars, a, asserted)
	l := api.Lit(1+r.Intn(len(a))) * api.Lit(1-2*r.Intn(2))
	c, ok := n.Implies(l)
	edge, e := cycles.Of(a, l)
	want := e == api.OK && !conflict && d[edge.X][edge.Y] != nil && d[edge.X][edge.Y].Cmp(big.NewInt(edge.C)) <= 0
	if ok != want {
		t.Fatal("Implies", l, ok, want)
	}
	if ok {
		if _, e := cycles.Check(a, append(slices.Clone(c), -l)); e != api.OK || !clauses.Within(c, asserted) {
			t.Fatal("Implies", c, l, e)
		}
	}
	if conflict {
		return false
	}
	bound := new(big.Int).Mul(new(big.Int).Lsh(big.NewInt(1), 63), big.NewInt(int64(vars)))
	for x := range vars {
		v := n.Value(x)
		if digits.Normal(v) != v || x == 0 && v != (api.Int{}) || value(v).CmpAbs(bound) > 0 {
			t.Fatal("Value", x, v)
		}
	}
	for _, l := range asserted {
		if edge, e := cycles.Of(a, l); e == api.OK && new(big.Int).Sub(value(n.Value(edge.X)), value(n.Value(edge.Y))).Cmp(big.NewInt(edge.C)) > 0 {
			t.Fatal("a value does not satisfy", edge)
		}
	}
	return ok
}

// TestGreatNets compares conflicts and values of greater nets with the shortest ways between all variables.
func TestGreatNets(t *testing.T) {
	r := rand.New(rand.NewSource(30))
	const vars, far = 25, int64(1) << 40
	conflicts := 0
	for range 40 {
		var a []api.Atom
		for range 160 {
			a = append(a, le(r.Intn(vars), r.Intn(vars), r.Int63n(40)-6))
		}
		n := net(t, vars, a...)
		var d [vars][vars]int64
		for x := range vars {
			for y := range vars {
				if x != y {
					d[x][y] = far
				}
			}
		}
		for i := range a {
			l := api.Lit(i + 1)
			edge, _ := cycles.Of(a, l)
			conflict := d[edge.Y][edge.X]+edge.C < 0 || edge.X == edge.Y && edge.C < 0
			n.Push()
			c, e := n.Assert(l)
			if conflict != (e == api.ErrConflict) {
				t.Fatal("conflict", conflict, e)
			}
			if conflict {
				conflicts++
				if _, ok := cycles.Check(a, c); ok != api.OK {
					t.Fatal("certificate", c, ok)
				}
				n.Pop(1)
				continue
			}
			for x := range vars {
				for y := range vars {
					d[x][y] = min(d[x][y], d[x][edge.X]+edge.C+d[edge.Y][y])
				}
			}
			for x := range vars {
				for y := range vars {
					if v := digits.Minus(n.Value(x), n.Value(y)); d[x][y] < far/2 && digits.Less(digits.Of(d[x][y]), v) {
						t.Fatal("values", x, y, v, d[x][y])
					}
				}
			}
		}
	}
	if conflicts < 100 {
		t.Error("few conflicts", conflicts)
	}
}

func TestOwnMemory(t *testing.T) {
	a := []api.Atom{le(1, 0, -1), le(0, 1, -1)}
	n := net(t, 2, a...)
	a[0] = le(0, 0, 0)
	n.Assert(1)
	c, _ := n.Assert(2)
	c[0] = 77
	if c, e := n.Assert(2); e != api.ErrConflict || slices.Contains(c, 77) || len(c) != 2 {
		t.Error("shared memory", c, e)
	}
}
