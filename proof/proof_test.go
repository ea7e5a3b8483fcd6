package proof

import (
	"math"
	"math/rand"
	"slices"
	"strings"
	"testing"

	"jurist/api"
	"jurist/lex"
	"jurist/tree"
)

type lits = []api.Lit

func step(k api.StepKind, l ...api.Lit) api.Step { return api.Step{Kind: k, Lits: l} }

func links(l ...api.Link) api.Step { return api.Step{Kind: api.StepLinks, Links: l} }

func read(t *testing.T, s string) api.Tree {
	t.Helper()
	l, _, e := lex.Tokens([]byte(s))
	x, at, f := tree.Next(l, 0)
	if e != api.OK || f != api.OK || at != len(l) {
		t.Fatal("tree", s[:min(len(s), 50)], e, f)
	}
	return x
}

func good() map[string]api.Step {
	return map[string]api.Step{
		"(clause)":                                step(api.StepClause),
		"(clause (- 1) 2)":                        step(api.StepClause, -1, 2),
		"(cycle 4611686018427387903)":             step(api.StepCycle, api.MaxNumeral),
		"(cycle (- 4611686018427387903))":         step(api.StepCycle, -api.MaxNumeral),
		"(pair 0 7)":                              {Kind: api.StepPair, B: 7},
		"(pair 4611686018427387903 0)":            {Kind: api.StepPair, A: api.MaxNumeral},
		"(links)":                                 links(),
		"(links (given 1) (clash 0))":             links(api.Link{Kind: api.LinkGiven, Lit: 1}, api.Link{Kind: api.LinkClash}),
		"(links (same 3) (turn 4) (then 5 6))":    links(api.Link{Kind: api.LinkSame, A: 3}, api.Link{Kind: api.LinkTurn, I: 4}, api.Link{Kind: api.LinkThen, I: 5, J: 6}),
		"(links (apply 1 2) (apply 0 0 3 4 0))":   links(api.Link{Kind: api.LinkApply, A: 1, B: 2}, api.Link{Kind: api.LinkApply, List: []int{3, 4, 0}}),
		"(links (against (- 9) 2) (given (- 1)))": links(api.Link{Kind: api.LinkAgainst, Lit: -9, I: 2}, api.Link{Kind: api.LinkGiven, Lit: -1}),
	}
}

func TestGood(t *testing.T) {
	for s, x := range good() {
		y, e := Tree(x)
		if !May(x) || e != api.OK || !tree.Same(y, read(t, s)) {
			t.Error("Tree", s, e)
		}
		if z, e := Read(read(t, " "+s)); e != api.OK || !Same(z, x) {
			t.Error("Read", s, z, e)
		}
		if text, e := Text([]api.Step{x}); text != "("+s+")" || e != api.OK {
			t.Error("Text", text, e)
		}
		for r, z := range good() {
			if Same(x, z) != (r == s) {
				t.Error("Same", r, s)
			}
		}
	}
}

func TestBadSteps(t *testing.T) {
	bad := []api.Step{
		{}, {Kind: 5}, step(api.StepClause, 0), step(api.StepClause, api.MaxNumeral+1), step(api.StepCycle, math.MinInt), step(api.StepClause, slices.Repeat(lits{1}, api.MaxClause+1)...), step(api.StepPair, 1), step(api.StepLinks, 1),
		{Kind: api.StepPair, B: -1}, {Kind: api.StepPair, A: -1}, {Kind: api.StepPair, A: api.MaxNumeral + 1}, {Kind: api.StepClause, A: 1}, {Kind: api.StepCycle, B: 1}, {Kind: api.StepLinks, A: 1}, {Kind: api.StepClause, Links: make([]api.Link, 1)}, {Kind: api.StepPair, Links: []api.Link{{Kind: api.LinkSame}}},
		links(make([]api.Link, 1)...), links(api.Link{Kind: 8}), links(slices.Repeat([]api.Link{{Kind: api.LinkSame}}, api.MaxLinks+1)...),
		links(api.Link{Kind: api.LinkGiven}), links(api.Link{Kind: api.LinkAgainst}), links(api.Link{Kind: api.LinkGiven, Lit: 1, A: 1}), links(api.Link{Kind: api.LinkGiven, Lit: 1, I: 1}), links(api.Link{Kind: api.LinkSame, Lit: 1}), links(api.Link{Kind: api.LinkSame, B: 1}), links(api.Link{Kind: api.LinkSame, A: -1}),
		links(api.Link{Kind: api.LinkTurn, J: 1}), links(api.Link{Kind: api.LinkTurn, I: -1}), links(api.Link{Kind: api.LinkTurn, List: []int{0}}), links(api.Link{Kind: api.LinkThen, A: 1}), links(api.Link{Kind: api.LinkThen, J: math.MinInt}), links(api.Link{Kind: api.LinkApply, I: 1}), links(api.Link{Kind: api.LinkApply, List: make([]int, 21)}),
		links(api.Link{Kind: api.LinkApply, List: []int{-1}}), links(api.Link{Kind: api.LinkApply, List: []int{api.MaxNumeral + 1}}), links(api.Link{Kind: api.LinkAgainst, Lit: 1, A: 1}), links(api.Link{Kind: api.LinkClash, J: 1}), links(api.Link{Kind: api.LinkClash, Lit: 1}), links(api.Link{Kind: api.LinkAgainst, Lit: math.MinInt}),
	}
	for i, x := range bad {
		y, e := Tree(x)
		if May(x) || e != api.ErrArg || y.List {
			t.Error("Tree", i, e)
		}
		if s, e := Text([]api.Step{step(api.StepClause), x}); s != "" || e != api.ErrArg {
			t.Error("Text", i, e)
		}
	}
}

func TestBadTrees(t *testing.T) {
	for _, s := range []string{
		"clause", "()", "(1)", "((clause))", "(close)", "(clause 0)", "(clause (- 0))", "(clause (- (- 1)))", "(clause -1)", "(clause x)", "(clause (1))", "(clause (- 1 2))", "(clause (-))", "(clause 4611686018427387904)", "(clause 1.5)", "(clause \"1\")", "(\"clause\")", "(clause (+ 1))",
		"(pair)", "(pair 1)", "(pair 1 2 3)", "(pair (- 1) 2)", "(pair x 1)", "(links 1)", "(links (given))", "(links (given 0))", "(links (given 1 2))", "(links (same (- 1)))", "(links (turn))", "(links (then 1))", "(links (then 1 2 3))", "(links (apply 1))", "(links (apply 1 2 x))", "(links (apply 1 2 (- 3)))", "(links (clause))",
		"(links (against 1))", "(links (against 1 2 3))", "(links (clash (- 1)))", "(links ())", "(links given)", "(cycle (given 1))", "(links (apply" + strings.Repeat(" 1", 23) + "))",
		"(clause" + strings.Repeat(" 1", api.MaxClause+1) + ")", "(links" + strings.Repeat(" (same 1)", api.MaxLinks+1) + ")",
	} {
		if x, e := Read(read(t, s)); e != api.ErrForm || !Same(x, api.Step{}) {
			t.Error("Read", s[:min(len(s), 50)], e)
		}
		if l, e := ReadAll(read(t, "((clause) "+s+")")); e != api.ErrForm || l != nil {
			t.Error("ReadAll", s[:min(len(s), 50)], e)
		}
	}
	good := read(t, "(clause 1)")
	for _, f := range []func(x *api.Tree){
		func(x *api.Tree) { x.Tok.Text = "[" }, func(x *api.Tree) { x.Tok.Kind = api.TokClose }, func(x *api.Tree) { x.List = false }, func(x *api.Tree) { x.Kids[1].Tok.Text = "01" }, func(x *api.Tree) { x.Kids[1].Kids = []api.Tree{{}} }, func(x *api.Tree) { x.Kids[0].Kids = []api.Tree{{}} }, func(x *api.Tree) { x.Kids[1].Tok.Text = "" },
	} {
		x := good
		x.Kids = slices.Clone(good.Kids)
		f(&x)
		if _, e := Read(x); e != api.ErrForm {
			t.Error("a tree that is none of a step's", x, e)
		}
	}
	for _, x := range []api.Tree{{}, {List: true}, {List: true, Tok: api.Token{Kind: api.TokOpen, Text: "["}}, {Tok: api.Token{Kind: api.TokOpen, Text: "("}}, {List: true, Tok: api.Token{Kind: api.TokClose, Text: "("}}} {
		if _, e := ReadAll(x); e != api.ErrForm {
			t.Error("ReadAll", x, e)
		}
	}
}

func TestMany(t *testing.T) {
	if s, e := Text(nil); s != "()" || e != api.OK {
		t.Error("no steps", s, e)
	}
	if l, e := ReadAll(read(t, "()")); len(l) != 0 || e != api.OK {
		t.Error("no steps", l, e)
	}
	var all []api.Step
	for _, x := range good() {
		all = append(all, x)
	}
	s, e := Text(all)
	if e != api.OK {
		t.Fatal(e)
	}
	l, e := ReadAll(read(t, s))
	if e != api.OK || !slices.EqualFunc(l, all, Same) {
		t.Error("read back", e)
	}
	long := links(slices.Repeat([]api.Link{{Kind: api.LinkApply, A: api.MaxNumeral, B: 1, List: slices.Repeat([]int{api.MaxNumeral}, 20)}}, api.MaxLinks)...)
	s, e = Text([]api.Step{long})
	if e != api.OK || len(s) < 8_000_000 {
		t.Error("a text longer than a script", len(s), e)
	}
	if x, _ := Tree(long); x.List {
		if y, e := Read(x); e != api.OK || !Same(y, long) {
			t.Error("a long step", e)
		}
	}
}

func TestSame(t *testing.T) {
	a := links(api.Link{Kind: api.LinkApply, List: []int{1}})
	b := links(api.Link{Kind: api.LinkApply, List: []int{1}})
	b.Lits = lits{}
	if !Same(a, b) || !Same(api.Step{Lits: lits{}}, api.Step{}) {
		t.Error("Same")
	}
	for i, f := range []func(x *api.Link){func(x *api.Link) { x.Kind++ }, func(x *api.Link) { x.Lit++ }, func(x *api.Link) { x.A++ }, func(x *api.Link) { x.B++ }, func(x *api.Link) { x.I++ }, func(x *api.Link) { x.J++ }, func(x *api.Link) { x.List[0]++ }, func(x *api.Link) { x.List = nil }} {
		c := links(api.Link{Kind: api.LinkApply, List: []int{1}})
		f(&c.Links[0])
		if Same(a, c) {
			t.Error("Same", i)
		}
	}
}

func TestRandom(t *testing.T) {
	r := rand.New(rand.NewSource(11))
	for range 500 {
		x := api.Step{Kind: api.StepKind(1 + r.Intn(4))}
		switch x.Kind {
		case api.StepPair:
			x.A, x.B = r.Intn(9), r.Intn(9)
		case api.StepLinks:
			for range r.Intn(5) {
				l := api.Link{Kind: api.LinkKind(1 + r.Intn(7))}
				f := linkForms()[l.Kind]
				if f.lit {
					l.Lit = api.Lit(1+r.Intn(9)) * api.Lit(1-2*r.Intn(2))
				}
				for _, p := range []struct {
					has bool
					to  *int
				}{{f.a, &l.A}, {f.b, &l.B}, {f.i, &l.I}, {f.j, &l.J}} {
					if p.has {
						*p.to = r.Intn(20)
					}
				}
				if f.list {
					l.List = []int{r.Intn(9), r.Intn(9)}[:r.Intn(3)]
				}
				x.Links = append(x.Links, l)
			}
		default:
			for range r.Intn(5) {
				x.Lits = append(x.Lits, api.Lit(1+r.Intn(9))*api.Lit(1-2*r.Intn(2)))
			}
		}
		y, e := Tree(x)
		z, f := Read(y)
		if e != api.OK || f != api.OK || !Same(x, z) {
			t.Fatal("read back", x, z)
		}
	}
}
