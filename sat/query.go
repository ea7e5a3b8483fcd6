package sat

import (
	"slices"

	"jurist/api"
	"jurist/heap"
)

// state is how a search stands.
type state uint8

const (
	running state = iota
	satisfied
	refuted
	exhausted // the budget is used up
	stopped   // the theory can't go on
)

// fewLessons is how many conflicts are too few to give up levels for: to make literals true again, and to tell the theory, costs more than a conflict.
const fewLessons = 32

// none is the reason of a literal that was decided or assumed.
const none = -1

// trail has the literals that are true, in order, with a mark for each level.
type trail struct{ heap.Trail[api.Lit] }

// query is the data of one search.
type query struct {
	state       state
	theory      api.Theory
	assumed     []api.Lit
	seeds       []uint64
	budget      int64
	used        int64
	core        []api.Lit
	row         trail
	starts      []int // of each level, how many literals came before it
	visited     int   // how many literals of the row had their clauses looked at
	told        int   // how many the theory knows
	values      []int8
	levels      []int
	reasons     []int       // of each atom, the clause that made it so
	clauses     [][]api.Lit // of this search; the first two literals are watched
	watched     [][]watcher // of each literal
	learned     []lesson
	mostLearned int
	order       *heap.Heap
	bump        int64
	phases      []int8 // the last value of each atom
	decided     []bool
	restarts    int
	clashes     int // conflicts since the last restart
	lessons     int // conflicts since the last restart that closed levels
}

func newQuery(assume []api.Lit, t api.Theory, seeds []uint64, budget int64) query {
	q := query{theory: t, assumed: slices.Clone(assume), seeds: slices.Clone(seeds), budget: max(budget, 0), bump: firstBump, mostLearned: firstReduction}
	if len(q.seeds) == 0 {
		q.seeds = []uint64{0}
	}
	return q
}

// extend makes room for all atoms.
func (s *Solver) extend() {
	if s.order.Size() < s.atoms {
		s.widen()
	}
	if len(s.values) == 0 {
		s.grow() // there is no atom 0
	}
	for len(s.values) <= s.atoms {
		s.order.Push(len(s.values) - 1)
		s.grow()
	}
}

// grow makes room for one more atom.
func (s *Solver) grow() {
	s.values = append(s.values, 0)
	s.levels = append(s.levels, 0)
	s.reasons = append(s.reasons, none)
	s.phases = append(s.phases, 0)
	s.decided = append(s.decided, false)
	s.watched = append(s.watched, nil, nil)
}

// widen makes the order anew for more atoms.
func (s *Solver) widen() {
	old := s.order
	s.order = heap.New(min(2*s.atoms, api.MaxSearch))
	for i := range old.Size() {
		s.order.Raise(i, old.Weight(i))
		if old.Has(i) {
			s.order.Push(i)
		}
	}
}

// spend counts a step; it is false if there is none left.
func (s *Solver) spend() bool {
	s.used++
	if s.used > s.budget {
		s.state = exhausted
		return false
	}
	return true
}

func atomOf(l api.Lit) int { return int(max(l, -l)) }

// value is 1 for a literal that is true, -1 for one that is false, and else 0.
func (s *Solver) value(l api.Lit) int8 {
	if l < 0 {
		return -s.values[-l]
	}
	return s.values[l]
}

func (s *Solver) level(l api.Lit) int { return s.levels[atomOf(l)] }

// place is a literal's place among the watched ones.
func place(l api.Lit) int {
	if l < 0 {
		return 2*int(-l) + 1
	}
	return 2 * int(l)
}

// set makes a literal true at the present level.
func (s *Solver) set(l api.Lit, reason int) {
	if !s.spend() {
		return
	}
	atom := atomOf(l)
	s.values[atom] = 1
	if l < 0 {
		s.values[atom] = -1
	}
	s.levels[atom], s.reasons[atom] = s.row.Level(), reason
	s.row.Push(l)
}

// open begins a level.
func (s *Solver) open() {
	s.starts = append(s.starts, s.row.Len())
	s.row.Mark()
	if s.theory != nil {
		s.theory.Push()
	}
}

// back closes all levels above one.
func (s *Solver) back(level int) {
	closed := s.row.Level() - level
	if closed <= 0 {
		return
	}
	for _, l := range s.row.Back(level) {
		atom := atomOf(l)
		s.phases[atom], s.values[atom] = s.values[atom], 0
		s.order.Push(atom - 1)
	}
	s.starts = s.starts[:level]
	s.visited, s.told = min(s.visited, s.row.Len()), min(s.told, s.row.Len())
	if s.theory != nil {
		s.theory.Pop(closed)
	}
}
