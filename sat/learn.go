package sat

import (
	"slices"

	"jurist/api"
	"jurist/clauses"
)

// The bumps of atoms grow, so that late conflicts weigh more than early ones.
const (
	firstBump = 1 << 10
	mostBump  = 1 << 50
)

// learn takes up a conflict: it learns a clause, and goes back to where the clause says something.
func (s *Solver) learn(conflict int) {
	if s.row.Level() == 0 {
		s.state = refuted
		return
	}
	learned := s.analyze(conflict)
	if len(learned) > api.MaxClause {
		s.state = stopped
		return
	}
	learned, _ = clauses.Normal(learned)
	s.steps = append(s.steps, api.Step{Kind: api.StepClause, Lits: slices.Clone(learned)})
	s.store(learned)
	index, spread := len(s.clauses), s.spreadOf(learned)
	s.take(learned)
	s.remember(index, spread)
	s.decay()
}

// analyze is a clause that follows from a conflict, with one literal of the present level.
func (s *Solver) analyze(conflict int) []api.Lit {
	seen := map[int]struct{}{}
	var learned []api.Lit
	open, at := 0, s.row.Len()
	c, implied := s.clauses[conflict], api.Lit(0)
	for {
		for _, l := range c {
			atom := atomOf(l)
			if _, known := seen[atom]; known || l == implied || s.levels[atom] == 0 {
				continue
			}
			seen[atom] = struct{}{}
			s.raise(atom)
			if s.levels[atom] == s.row.Level() {
				open++
			} else {
				learned = append(learned, l)
			}
		}
		at = s.lastSeen(seen, at)
		implied, _ = s.row.At(at)
		open--
		if open <= 0 {
			break
		}
		c = s.clauses[s.reasons[atomOf(implied)]]
	}
	return append(s.shorten(learned, seen), -implied)
}

// lastSeen is the place of the last literal ahead of one whose atom was seen.
func (s *Solver) lastSeen(seen map[int]struct{}, at int) int {
	for at > 0 {
		at--
		l, _ := s.row.At(at)
		if _, known := seen[atomOf(l)]; known {
			return at
		}
	}
	return at
}

// shorten leaves out literals that the others imply.
func (s *Solver) shorten(learned []api.Lit, seen map[int]struct{}) []api.Lit {
	return slices.DeleteFunc(learned, func(l api.Lit) bool {
		reason := s.reasons[atomOf(l)]
		if reason == none {
			return false
		}
		return !slices.ContainsFunc(s.clauses[reason], func(k api.Lit) bool {
			_, known := seen[atomOf(k)]
			return !known && s.level(k) > 0
		})
	})
}

// raise makes an atom weigh more.
func (s *Solver) raise(atom int) {
	for s.order.Raise(atom-1, s.bump) == api.ErrOverflow {
		for range 32 {
			s.order.Halve()
		}
		s.bump = max(s.bump>>32, firstBump)
	}
}

func (s *Solver) decay() {
	if s.bump < mostBump {
		s.bump += s.bump >> 4
		return
	}
	for range 32 {
		s.order.Halve()
	}
	s.bump >>= 32
}

// refuse takes up an assumption that is false: it and those that make it so are the core.
func (s *Solver) refuse(l api.Lit) {
	s.state = refuted
	s.core = []api.Lit{l}
	if s.level(l) == 0 {
		return
	}
	seen := map[int]struct{}{atomOf(l): {}}
	for at := s.row.Len() - 1; at >= 0; at-- {
		k, _ := s.row.At(at)
		if _, known := seen[atomOf(k)]; !known || s.level(k) == 0 {
			continue
		}
		reason := s.reasons[atomOf(k)]
		if reason == none {
			s.core = append(s.core, k)
			continue
		}
		for _, other := range s.clauses[reason] {
			seen[atomOf(other)] = struct{}{}
		}
	}
}
