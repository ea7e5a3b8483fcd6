package rewrite

import (
	"math"
	"math/rand"
	"slices"
	"testing"

	"jurist/api"
	"jurist/parts"
	"jurist/terms"
	"jurist/world"
)

// kit makes terms, and fails the test on an error.
type kit struct {
	t *testing.T
	s *terms.Store
}

func (k kit) ok(x api.Term, e api.Errno) api.Term {
	k.t.Helper()
	if e != api.OK {
		k.t.Fatal("error", e)
	}
	return x
}

func (k kit) fun(n int, s api.Sort, l ...api.Term) api.Term { return k.ok(k.s.App(n, s, l...)) }
func (k kit) not(a api.Term) api.Term                       { return k.ok(k.s.Not(a)) }
func (k kit) and(l ...api.Term) api.Term                    { return k.ok(k.s.And(l...)) }
func (k kit) or(l ...api.Term) api.Term                     { return k.ok(k.s.Or(l...)) }
func (k kit) eq(a, b api.Term) api.Term                     { return k.ok(k.s.Eq(a, b)) }
func (k kit) ite(c, a, b api.Term) api.Term                 { return k.ok(k.s.Ite(c, a, b)) }
func (k kit) plus(a api.Term, n int64) api.Term             { return k.ok(k.s.Plus(a, n)) }
func (k kit) le(a, b api.Term, n int64) api.Term            { return k.ok(k.s.Le(a, b, n)) }

func TestRules(t *testing.T) {
	k := kit{t, terms.New()}
	p, q, c := k.fun(0, 0), k.fun(1, 0), k.fun(6, 0)
	x, y := k.fun(2, 1), k.fun(3, 1)
	u, v := k.fun(4, 2), k.fun(5, 2)
	T, F := api.True, api.False
	cases := []struct{ in, want api.Term }{
		{T, T}, {F, F}, {api.Zero, api.Zero}, {p, p}, {k.not(T), F}, {k.not(F), T}, {k.not(k.not(p)), p}, {k.not(k.not(k.not(p))), k.not(p)},
		{k.and(p, T, k.and(q, p)), k.and(p, q)}, {k.and(p, F), F}, {k.and(p, k.not(p)), F}, {k.and(k.not(p), q, p), F}, {k.and(T, T), T}, {k.and(T, p), p}, {k.and(p, p), p}, {k.and(q, p, q), k.and(q, p)},
		{k.and(k.and(p, k.and(q, c)), p), k.and(p, q, c)}, {k.and(k.or(p, q), k.or(p, q)), k.or(p, q)}, {k.and(p, k.or(q, k.not(q))), p}, {k.and(k.and(p, q), k.not(q)), F},
		{k.or(p, F, k.or(q, p)), k.or(p, q)}, {k.or(p, T), T}, {k.or(p, k.not(p)), T}, {k.or(F, F), F}, {k.or(F, p), p}, {k.or(k.or(c, p), k.or(p, q)), k.or(c, p, q)}, {k.or(k.and(p, q), p), k.or(k.and(p, q), p)},
		{k.eq(u, u), T}, {k.eq(p, T), p}, {k.eq(T, p), p}, {k.eq(F, p), k.not(p)}, {k.eq(p, F), k.not(p)}, {k.eq(k.not(p), F), p}, {k.eq(F, T), F}, {k.eq(T, F), F}, {k.eq(T, T), T},
		{k.eq(v, u), k.eq(u, v)}, {k.eq(u, v), k.eq(u, v)}, {k.eq(k.plus(x, 1), k.plus(x, 2)), F}, {k.eq(x, k.plus(x, 2)), F}, {k.eq(k.ok(k.s.Num(1)), k.ok(k.s.Num(2))), F}, {k.eq(k.plus(x, 1), k.plus(y, 1)), k.eq(k.plus(x, 1), k.plus(y, 1))}, {k.eq(q, p), k.eq(p, q)},
		{k.ite(T, x, y), x}, {k.ite(F, x, y), y}, {k.ite(p, x, x), x}, {k.ite(k.not(p), x, y), k.ite(p, y, x)}, {k.ite(p, T, F), p}, {k.ite(p, F, T), k.not(p)}, {k.ite(k.not(p), T, F), k.not(p)}, {k.ite(k.not(p), F, T), p}, {k.ite(p, q, F), k.ite(p, q, F)}, {k.ite(k.not(p), k.ite(T, x, y), x), x},
		{k.plus(k.ite(T, x, y), 5), k.plus(x, 5)}, {k.plus(k.ite(T, k.plus(x, 3), y), -3), x}, {k.le(k.ite(T, k.plus(x, 3), y), y, 1), k.le(x, y, -2)}, {k.le(k.ite(T, x, y), x, -1), F},
		{k.fun(7, 1, k.ite(T, x, y), k.not(k.not(p))), k.fun(7, 1, x, p)}, {k.not(k.and(p, k.not(p))), T}, {k.eq(k.and(p, T), p), T},
	}
	for i, c := range cases {
		if got, e := Simple(k.s, c.in); got != c.want || e != api.OK {
			n, _ := k.s.Node(got)
			t.Error("Simple", i, got, n, e, "want", c.want)
		}
		if again, _ := Simple(k.s, c.want); again != c.want {
			t.Error("simple again", i)
		}
	}
	var in, want []api.Term
	for _, c := range cases {
		in, want = append(in, c.in), append(want, c.want)
	}
	if got, e := All(k.s, in...); e != api.OK || !slices.Equal(got, want) {
		t.Error("All", e)
	}
}

func TestOneLevelOnly(t *testing.T) {
	k := kit{t, terms.New()}
	var l []api.Term
	for i := range 2001 {
		l = append(l, k.fun(i, 0))
	}
	big := k.and(k.and(l[:1500]...), k.and(l[1500:]...), api.True)
	got, e := Simple(k.s, big)
	if n, _ := k.s.Node(got); e != api.OK || got != big || len(n.Args) != 3 {
		t.Error("an And that would be too long stays", e, n.Op, len(n.Args))
	}
	outer := k.and(l[0], big)
	got, _ = Simple(k.s, outer)
	if n, _ := k.s.Node(got); len(n.Args) != 3 {
		t.Error("one level is flattened, and no True stays", len(n.Args))
	}
	if got, _ := Simple(k.s, k.and(big, k.not(big))); got != api.False {
		// big's own arguments take its place, so that nothing contradicts Not of big.
		if n, _ := k.s.Node(got); n.Op != api.OpAnd {
			t.Error("And", n.Op)
		}
	}
	fits := k.and(k.and(l[:1500]...), k.and(l[1500:2000]...))
	got, _ = Simple(k.s, fits)
	if n, _ := k.s.Node(got); len(n.Args) != 2000 {
		t.Error("MaxKids arguments", len(n.Args))
	}
	unchanged := k.or(k.or(l[:1500]...), k.or(l[1500:]...), k.not(k.not(l[3])))
	got, _ = Simple(k.s, unchanged)
	if n, _ := k.s.Node(got); len(n.Args) != 3 || n.Args[2] != l[3] {
		t.Error("the simple forms of the arguments", n.Args)
	}
	if got, _ := Simple(k.s, k.and(k.and(l[:1500]...), k.and(l[1500:]...), api.False)); got != api.False {
		t.Error("False decides a long And, too")
	}
}

func TestOverflow(t *testing.T) {
	k := kit{t, terms.New()}
	x, y := k.fun(0, 1), k.fun(1, 1)
	ite := k.ite(api.True, k.plus(x, api.MaxNumeral), y)
	plus := k.plus(ite, 1)
	le := k.le(ite, y, -1)
	if got, e := Simple(k.s, plus); got != plus || e != api.OK {
		t.Error("Plus", got, e)
	}
	if got, e := Simple(k.s, le); got != le || e != api.OK {
		t.Error("Le", got, e)
	}
	if got, e := Simple(k.s, k.eq(plus, k.plus(x, 0))); e != api.OK || got != k.eq(x, plus) {
		t.Error("a part that was left", got, e)
	}
}

func TestErrors(t *testing.T) {
	if x, e := Simple(nil, 0); x != 0 || e != api.ErrNil {
		t.Error("nil", e)
	}
	if l, e := All(nil); l != nil || e != api.ErrNil {
		t.Error("nil", e)
	}
	k := kit{t, terms.New()}
	p := k.fun(0, 0)
	nn := k.not(k.not(p))
	for _, none := range []api.Term{-1, 99, math.MaxInt, math.MinInt} {
		if x, e := Simple(k.s, none); x != 0 || e != api.ErrNone {
			t.Error("no term", none, e)
		}
		if l, e := All(k.s, nn, none); l != nil || e != api.ErrNone {
			t.Error("no term", none, e)
		}
	}
	if l, e := All(k.s); len(l) != 0 || e != api.OK {
		t.Error("nothing", e)
	}
	or := k.or(k.not(p), k.or(k.fun(1, 0), k.fun(2, 0)))
	for i := k.s.Len(); i < api.MaxTerms; i++ {
		k.fun(i, 1)
	}
	if l, e := All(k.s, p, nn); e != api.OK || l[1] != p {
		t.Error("a full store", l, e)
	}
	if l, e := All(k.s, p, or, -1); l != nil || e != api.ErrFull {
		t.Error("no room", l, e)
	}
	if l, e := All(k.s, p, -1, or); l != nil || e != api.ErrNone {
		t.Error("the first error", l, e)
	}
}

// TestSameValue compares random terms with their simple forms in random worlds.
func TestSameValue(t *testing.T) {
	r := rand.New(rand.NewSource(8))
	for range 60 {
		k := kit{t, terms.New()}
		for i := range 3 {
			k.fun(i, 0)
			k.fun(3+i, 1)
			k.fun(6+i, 2)
		}
		pick := func(sort api.Sort) api.Term {
			for {
				x := api.Term(r.Intn(k.s.Len()))
				if n, _ := k.s.Node(x); n.Sort == sort {
					return x
				}
			}
		}
		for range 120 {
			s := api.Sort(r.Intn(3))
			switch r.Intn(8) {
			case 0:
				k.not(pick(0))
			case 1:
				k.and(pick(0), pick(0), pick(0))
			case 2:
				k.or(pick(0), pick(0))
			case 3:
				k.eq(pick(s), pick(s))
			case 4:
				k.ite(pick(0), pick(s), pick(s))
			case 5:
				k.plus(pick(1), r.Int63n(7)-3)
			case 6:
				k.le(pick(1), pick(1), r.Int63n(7)-3)
			case 7:
				k.fun(9, 1, pick(0), pick(1))
			}
		}
		length := k.s.Len()
		all := make([]api.Term, length)
		for i := range all {
			all[i] = api.Term(i)
		}
		simple, e := All(k.s, all...)
		if e != api.OK {
			t.Fatal(e)
		}
		for range 10 {
			w := api.World{}
			for i := range 10 {
				v := api.Val{Sort: api.Sort(i / 3)}
				switch {
				case i < 3:
					v.B = r.Intn(2) == 0
				case i < 6 || i == 9:
					v = api.Val{Sort: 1, I: api.Int{Low: r.Int63n(4)}}
				default:
					v.E = r.Int63n(2)
				}
				w.Funs = append(w.Funs, api.Table{Fun: i, Else: v})
			}
			a, _ := world.Values(k.s, w, all...)
			b, _ := world.Values(k.s, w, simple...)
			if !slices.Equal(a, b) {
				t.Fatal("values differ")
			}
		}
		for _, n := range parts.Of(k.s, simple...) {
			for _, a := range n.Args {
				if n.Op == api.OpNot || n.Op == api.OpAnd || n.Op == api.OpOr {
					if m, _ := k.s.Node(a); a <= api.False || n.Op == api.OpNot && m.Op == api.OpNot {
						t.Fatal("a simple form that is not simple")
					}
				}
			}
		}
	}
}
