package rup

import (
	"math"
	"math/rand"
	"slices"
	"testing"

	"jurist/api"
)

type lits = []api.Lit

var db = []lits{{1, 2}, {-1, 3}, {-2, 3}}

func TestExamples(t *testing.T) {
	if l, conflict, e := Units(db, lits{-3}); l != nil || !conflict || e != api.OK {
		t.Error("Units with -3", l, conflict, e)
	}
	if l, conflict, e := Units(db, lits{-1}); !slices.Equal(l, lits{-1, 2, 3}) || conflict || e != api.OK {
		t.Error("Units with -1", l, conflict, e)
	}
	for _, c := range []struct {
		c    lits
		want bool
	}{{lits{3}, true}, {lits{1}, false}, {lits{5, -5}, true}, {nil, false}, {lits{1, 2, 9}, true}, {lits{4}, false}} {
		if got, e := Follows(db, c.c); got != c.want || e != api.OK {
			t.Error("Follows", c.c, got, e)
		}
	}
	if n, refuted, e := Row(db, []lits{{3}, {1}}); n != 1 || refuted || e != api.OK {
		t.Error("Row", n, refuted, e)
	}
	more := append(slices.Clone(db), lits{-3})
	if n, refuted, e := Row(more, []lits{{3}, {}}); n != 2 || !refuted || e != api.OK {
		t.Error("Row", n, refuted, e)
	}
}

func TestEdges(t *testing.T) {
	for _, c := range []struct {
		db       []lits
		given    lits
		want     lits
		conflict bool
	}{
		{nil, nil, nil, false}, {nil, lits{1, -1}, nil, true}, {[]lits{{}}, nil, nil, true}, {[]lits{{2}, {-2}}, nil, nil, true}, {[]lits{{2, 2}}, nil, lits{2}, false}, {[]lits{{2, -2, 3}}, lits{-3}, lits{-3}, false},
		{[]lits{{-1, 2}, {-2, 3}, {-3, 4}}, lits{1, 1}, lits{1, 2, 3, 4}, false}, {[]lits{{-1, 2}, {-2, 3}, {-3, -1}}, lits{1}, nil, true}, {[]lits{{api.MaxAtom}, {-api.MaxAtom, 5}}, nil, lits{5, api.MaxAtom}, false},
	} {
		if l, conflict, e := Units(c.db, c.given); !slices.Equal(l, c.want) || conflict != c.conflict || e != api.OK {
			t.Error("Units", c, l, conflict, e)
		}
	}
	if n, refuted, e := Row(db, nil); n != 0 || refuted || e != api.OK {
		t.Error("an empty row", n, refuted, e)
	}
	if n, refuted, _ := Row([]lits{{1}, {-1}}, []lits{{7}}); n != 1 || refuted {
		t.Error("no empty clause", n, refuted)
	}
	if n, refuted, _ := Row([]lits{{1}, {-1}}, []lits{{}, {7}, {}, {-9}}); n != 4 || !refuted {
		t.Error("all follows", n, refuted)
	}
	if n, refuted, _ := Row(nil, []lits{{1, -1}, {}}); n != 1 || refuted {
		t.Error("the empty clause does not follow", n, refuted)
	}
	// A clause of the row counts for the later ones only.
	if n, _, _ := Row([]lits{{1, 2}, {1, -2}, {-1, 3}, {-1, -3, 4}}, []lits{{4}, {1}}); n != 0 {
		t.Log("4 follows by units alone")
	}
	if n, _, _ := Row([]lits{{1, 2, 3}, {1, 2, -3}, {1, -2, 3}, {1, -2, -3}}, []lits{{1}}); n != 0 {
		t.Error("1 needs a lemma", n)
	}
	if n, _, _ := Row([]lits{{1, 2, 3}, {1, 2, -3}, {1, -2, 3}, {1, -2, -3}}, []lits{{1, 2}, {1}}); n != 2 {
		t.Error("1 follows by the lemma", n)
	}
}

func TestManyDerived(t *testing.T) {
	var chain []lits
	for i := range 7000 {
		chain = append(chain, lits{-api.Lit(i + 1), api.Lit(i + 2)})
	}
	l, conflict, e := Units(chain, lits{1})
	if len(l) != 7001 || !slices.IsSorted(l) || conflict || e != api.OK {
		t.Error("a long chain", len(l), conflict, e)
	}
}

func TestManyDerivedInAnyOrder(t *testing.T) {
	var chain []lits
	for i := range 7000 {
		l := api.Lit(7000 - i)
		if i%2 == 0 {
			l = -l
		}
		last := api.Lit(7001 - i)
		if i%2 == 1 {
			last = -last
		}
		chain = append(chain, lits{-last, l})
	}
	l, conflict, e := Units(chain, lits{7001})
	if len(l) != 7001 || conflict || e != api.OK {
		t.Fatal("a long chain", len(l), conflict, e)
	}
	for i, x := range l {
		if max(x, -x) != api.Lit(i+1) || (x > 0) != (i%2 == 0) {
			t.Fatal("order", i, x)
		}
	}
}

func TestLongRows(t *testing.T) {
	// Many clauses are tested on one base, so that what one test leaves behind would spoil the next.
	r := rand.New(rand.NewSource(29))
	followed := 0
	for range 150 {
		var l []lits
		for range 45 {
			l = append(l, append(some(r, 12, 2), some(r, 12, 3)...))
			if len(l[len(l)-1]) < 2 {
				l = l[:len(l)-1]
			}
		}
		b := NewBase()
		for _, c := range l {
			b.Add(c)
		}
		for range 60 {
			c := some(r, 12, 5)
			negated := make(lits, len(c))
			for j := range c {
				negated[j] = -c[j]
			}
			_, want := slowUnits(l, negated)
			got, e := b.Follows(c)
			if got != want || e != api.OK {
				t.Fatal("Follows", l, c, got, want)
			}
			if got && len(c) > 0 {
				followed++
				b.Add(c)
				l = append(l, c)
			}
		}
	}
	if followed < 500 {
		t.Error("few clauses follow", followed)
	}
}

func TestErrors(t *testing.T) {
	for _, bad := range []lits{{0}, {api.MaxAtom + 1}, {math.MinInt}, slices.Repeat(lits{1}, api.MaxClause+1)} {
		if l, c, e := Units([]lits{{}, bad}, nil); l != nil || c || e != api.ErrArg {
			t.Error("Units", e)
		}
		if l, c, e := Units([]lits{{}}, bad); l != nil || c || e != api.ErrArg {
			t.Error("Units", e)
		}
		if ok, e := Follows([]lits{{}, bad}, nil); ok || e != api.ErrArg {
			t.Error("Follows", e)
		}
		if ok, e := Follows([]lits{{}}, bad); ok || e != api.ErrArg {
			t.Error("Follows", e)
		}
		if n, r, e := Row([]lits{bad}, nil); n != 0 || r || e != api.ErrArg {
			t.Error("Row", e)
		}
		if n, r, e := Row(nil, []lits{{3}, bad}); n != 0 || r || e != api.ErrArg {
			t.Error("Row", e)
		}
		b := NewBase()
		if b.Add(bad) != api.ErrArg {
			t.Error("Add")
		}
		if ok, e := b.Follows(bad); ok || e != api.ErrArg {
			t.Error("Follows", e)
		}
	}
}

// slowUnits derives in the plainest way.
func slowUnits(db []lits, given lits) (map[api.Lit]bool, bool) {
	derived := map[api.Lit]bool{}
	for _, l := range given {
		derived[l] = true
	}
	for changed := true; changed; {
		changed = false
		for _, c := range db {
			open := map[api.Lit]bool{}
			for _, l := range c {
				if !derived[-l] {
					open[l] = true
				}
			}
			if len(open) == 0 {
				return nil, true
			}
			for l := range open {
				if len(open) == 1 && !derived[l] {
					derived[l] = true
					changed = true
				}
			}
		}
	}
	for l := range derived {
		if derived[-l] {
			return nil, true
		}
	}
	return derived, false
}

func some(r *rand.Rand, atoms, most int) lits {
	c := make(lits, r.Intn(most+1))
	for i := range c {
		c[i] = api.Lit(1+r.Intn(atoms)) * api.Lit(1-2*r.Intn(2))
	}
	return c
}

func TestAgainstThePlainWay(t *testing.T) {
	r := rand.New(rand.NewSource(12))
	for range 3000 {
		var l []lits
		for range r.Intn(14) {
			c := some(r, 7, 4)
			if len(c) == 0 && r.Intn(10) > 0 {
				continue
			}
			l = append(l, c)
		}
		given := some(r, 7, 3)
		before := make([]lits, len(l))
		for i := range l {
			before[i] = slices.Clone(l[i])
		}
		want, conflict := slowUnits(l, given)
		got, c, e := Units(l, given)
		if e != api.OK || c != conflict || len(got) != len(want) {
			t.Fatal("Units", l, given, got, c, want, conflict)
		}
		for _, x := range got {
			if !want[x] {
				t.Fatal("Units", l, given, got, want)
			}
		}
		for i := range l {
			if !slices.Equal(l[i], before[i]) {
				t.Fatal("the clauses were changed")
			}
		}
		// A row is checked clause by clause with those before it.
		var row []lits
		for range 1 + r.Intn(5) {
			row = append(row, some(r, 7, 3))
		}
		n, refuted, _ := Row(l, row)
		all, empty := slices.Clone(l), false
		for i, c := range row {
			negated := make(lits, len(c))
			for j := range c {
				negated[j] = -c[j]
			}
			_, conflict := slowUnits(all, negated)
			if ok, _ := Follows(all, c); ok != conflict {
				t.Fatal("Follows", all, c)
			}
			if !conflict {
				if n != i || refuted {
					t.Fatal("Row stops", n, i)
				}
				break
			}
			empty = empty || len(c) == 0
			all = append(all, c)
			if i == len(row)-1 && (n != len(row) || refuted != empty) {
				t.Fatal("Row ends", n, refuted)
			}
		}
	}
}
