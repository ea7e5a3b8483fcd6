package sat

import (
	"cmp"
	"slices"

	"jurist/api"
)

// The first reduction comes late, and each later one later still, so that a search of few atoms never has one, and every search ends.
const (
	firstReduction = 3000
	nextReduction  = 600
	goodSpread     = 2
)

// lesson is a clause that was learned in this search, and over how many levels it was spread.
type lesson struct{ index, spread, size int }

// remember notes a clause that was just learned.
func (s *Solver) remember(index, spread int) {
	s.learned = append(s.learned, lesson{index, spread, len(s.clauses[index])})
	if len(s.learned) >= s.mostLearned {
		s.mostLearned += nextReduction
		s.reduce()
	}
}

// spreadOf is over how many levels a clause's literals are.
func (s *Solver) spreadOf(c []api.Lit) int {
	levels := map[int]struct{}{}
	for _, l := range c {
		levels[s.level(l)] = struct{}{}
	}
	return len(levels)
}

// reduce lets the search watch the better half of the learned clauses only. The others remain the solver's.
func (s *Solver) reduce() {
	needed := map[int]struct{}{}
	for i := range s.row.Len() {
		l, _ := s.row.At(i)
		needed[s.reasons[atomOf(l)]] = struct{}{}
	}
	slices.SortStableFunc(s.learned, func(a, b lesson) int {
		return cmp.Or(cmp.Compare(a.spread, b.spread), cmp.Compare(a.size, b.size))
	})
	kept := s.learned[:0]
	for i, x := range s.learned {
		_, reason := needed[x.index]
		if i < len(s.learned)/2 || x.spread <= goodSpread || reason {
			kept = append(kept, x)
		} else {
			s.clauses[x.index] = nil
		}
	}
	s.learned = kept
}
