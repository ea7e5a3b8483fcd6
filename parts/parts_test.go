package parts

import (
	"slices"
	"testing"

	"jurist/api"
	"jurist/terms"
)

func TestOf(t *testing.T) {
	s := terms.New()
	p, _ := s.App(0, api.Bool)
	q, _ := s.App(1, api.Bool)
	and, _ := s.And(p, q, p)
	not, _ := s.Not(and)
	s.Not(q)
	all := func(l ...api.Term) []api.Term {
		var got []api.Term
		for x, n := range Of(s, l...) {
			if m, _ := s.Node(x); m.Op != n.Op || !slices.Equal(m.Args, n.Args) {
				t.Error("node", x)
			}
			got = append(got, x)
		}
		return got
	}
	if got := all(not, p, not); !slices.Equal(got, []api.Term{p, q, and, not}) {
		t.Error("parts", got)
	}
	if got := all(); got != nil {
		t.Error("parts of nothing", got)
	}
	if got := all(-1, 99, api.True); !slices.Equal(got, []api.Term{api.True}) {
		t.Error("terms that are not there", got)
	}
	given := []api.Term{q, not, p}
	for range Of(s, given...) {
	}
	if !slices.Equal(given, []api.Term{q, not, p}) {
		t.Error("the terms were changed", given)
	}
	for range Of(s, not) {
		break
	}
	for range Of(nil, not) {
		t.Error("no store")
	}
}
