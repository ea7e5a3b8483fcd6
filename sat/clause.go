package sat

import (
	"math"
	"slices"

	"jurist/api"
)

// take puts a clause into the search, whatever it says under the present assignment.
func (s *Solver) take(c []api.Lit) {
	c = slices.Clone(c)
	s.lead(c, 0)
	s.lead(c, 1)
	index := len(s.clauses)
	s.clauses = append(s.clauses, c)
	if len(c) == 0 {
		s.state = refuted
		return
	}
	second := 0 // the level from which on the clause makes its first literal true
	if len(c) > 1 {
		s.watch(c[0], watcher{c[1], index})
		s.watch(c[1], watcher{c[0], index})
		if s.value(c[1]) >= 0 {
			return
		}
		second = s.level(c[1])
	}
	switch first := s.level(c[0]); s.value(c[0]) {
	case -1:
		s.clash(index, first, second)
	case 1:
		if first > second {
			s.back(second)
			s.set(c[0], index)
		}
	default:
		s.back(second)
		s.set(c[0], index)
	}
}

// lead puts the literal to watch at a place: one that is not false if there is one, else one of the highest level.
func (s *Solver) lead(c []api.Lit, at int) {
	best, most := at, -1
	for i := at; i < len(c); i++ {
		rank := s.level(c[i])
		if s.value(c[i]) >= 0 {
			rank = math.MaxInt - 1 + int(s.value(c[i]))
		}
		if rank > most {
			best, most = i, rank
		}
	}
	if best < len(c) {
		c[at], c[best] = c[best], c[at]
	}
}

// clash takes up a clause whose literals are all false.
func (s *Solver) clash(index, first, second int) {
	switch {
	case first == 0:
		s.state = refuted
	case first > second:
		s.back(second)
		s.set(s.clauses[index][0], index)
		s.restart()
	default:
		s.back(first)
		s.learn(index)
	}
}

// watcher is a clause that watches a literal, and another literal of it: while that one is true, the clause need not be looked at.
type watcher struct {
	other api.Lit
	index int
}

func (s *Solver) watch(l api.Lit, w watcher) {
	s.watched[place(l)] = append(s.watched[place(l)], w)
}

// propagate makes true what follows from the clauses; it is a clause whose literals are all false, or none.
func (s *Solver) propagate() int {
	for s.state == running && s.visited < s.row.Len() {
		l, _ := s.row.At(s.visited)
		s.visited++
		if conflict := s.visit(-l); conflict != none {
			return conflict
		}
	}
	return none
}

// visit looks at the clauses that watch a literal that is false now.
func (s *Solver) visit(gone api.Lit) int {
	list := s.watched[place(gone)]
	kept, conflict := list[:0], none
watching:
	for i, w := range list {
		if s.value(w.other) > 0 {
			kept = append(kept, w)
			continue
		}
		c := s.clauses[w.index]
		if c == nil {
			continue // it is not watched any more
		}
		if c[0] == gone {
			c[0], c[1] = c[1], c[0]
		}
		w.other = c[0]
		if s.value(c[0]) > 0 {
			kept = append(kept, w)
			continue
		}
		for k := 2; k < len(c); k++ {
			if s.value(c[k]) >= 0 {
				c[1], c[k] = c[k], c[1]
				s.watch(c[1], w)
				continue watching
			}
		}
		kept = append(kept, w)
		if s.value(c[0]) < 0 {
			conflict = w.index
		} else {
			s.set(c[0], w.index)
		}
		if conflict != none || s.state != running {
			kept = append(kept, list[i+1:]...)
			break watching
		}
	}
	s.watched[place(gone)] = kept
	return conflict
}
