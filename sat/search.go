package sat

import (
	"jurist/api"
	"jurist/clauses"
)

// run searches until the state tells the answer.
func (s *Solver) run() {
	if s.theory != nil {
		s.theory.Push()
	}
	s.extend()
	for _, c := range s.stored {
		if s.state == running {
			s.take(c)
		}
	}
	for s.state == running {
		s.settle()
		if s.state == running {
			s.advance()
		}
	}
}

// settle makes true what follows from the clauses and the theory.
func (s *Solver) settle() {
settling:
	for s.state == running {
		if conflict := s.propagate(); conflict != none {
			s.learn(conflict)
			continue
		}
		if s.theory == nil {
			return
		}
		for s.state == running && s.told < s.row.Len() {
			l, _ := s.row.At(s.told)
			s.told++
			if !s.spend() {
				return
			}
			if reason, ok := s.theory.Assert(l); !ok {
				s.explain(reason, true)
				continue settling
			}
		}
		if s.state != running || !s.spend() {
			return
		}
		reason, implied := s.theory.Imply()
		if !implied {
			return
		}
		s.explain(reason, false)
	}
}

// advance takes the next assumption, or decides, or asks the theory at last.
func (s *Solver) advance() {
	for s.row.Level() < len(s.assumed) {
		l := s.assumed[s.row.Level()]
		switch s.value(l) {
		case -1:
			s.refuse(l)
			return
		case 0:
			s.open()
			s.set(l, none)
			return
		}
		s.open()
	}
	if atom := s.pick(); atom > 0 {
		if s.spend() {
			s.open()
			s.set(s.choose(atom), none)
		}
		return
	}
	if s.theory == nil {
		s.state = satisfied
		return
	}
	if s.spend() {
		s.finish()
	}
}

// pick is the next atom to decide, or 0 if all are.
func (s *Solver) pick() int {
	for {
		i, ok := s.order.First()
		if !ok {
			return 0
		}
		if s.values[i+1] == 0 {
			return i + 1
		}
		s.order.Pop()
	}
}

// choose is the literal by which an atom is decided.
func (s *Solver) choose(atom int) api.Lit {
	positive := s.phases[atom] > 0
	if !s.decided[atom] {
		s.decided[atom] = true
		positive = s.seeds[0]>>(atom%64)&1 == 1
	}
	if positive {
		return api.Lit(atom)
	}
	return -api.Lit(atom)
}

// finish asks the theory about a full assignment.
func (s *Solver) finish() {
	final, reason, split := s.theory.Final()
	switch final {
	case api.FinalOK:
		s.state = satisfied
	case api.FinalConflict:
		s.explain(reason, true)
	case api.FinalSplit:
		s.divide(split)
	default:
		s.state = stopped
	}
}

// explain takes up a theory's clause. A theory that returns no clause of the solver's atoms, or a conflict that is none, can't be gone on with.
func (s *Solver) explain(reason api.Reason, conflict bool) {
	if !s.may(reason.Clause, s.atoms) {
		s.state = stopped
		return
	}
	c, _ := clauses.Normal(reason.Clause)
	for _, l := range c {
		if conflict && s.value(l) >= 0 {
			s.state = stopped
			return
		}
	}
	s.steps = append(s.steps, copyStep(reason.Step))
	if !clauses.SaysNothing(c) {
		s.take(c)
	}
}

// divide takes up new atoms and clauses.
func (s *Solver) divide(split api.Split) {
	if split.Atoms < 0 || split.Atoms > api.MaxSearch-s.atoms {
		s.state = stopped
		return
	}
	atoms := s.atoms + split.Atoms
	for _, c := range split.Clauses {
		if !s.may(c, atoms) {
			s.state = stopped
			return
		}
	}
	s.atoms = atoms
	s.extend()
	s.steps = append(s.steps, copyStep(split.Step))
	known := len(s.stored)
	for _, c := range split.Clauses {
		s.store(c)
	}
	fresh := s.stored[known:len(s.stored):len(s.stored)]
	for _, c := range fresh {
		if s.state == running {
			s.take(c)
		}
	}
}

// restart begins anew after so many conflicts as the seed says. Levels whose decisions would be made again are kept, and all of them are unless there was enough to learn from.
func (s *Solver) restart() {
	s.clashes++
	s.lessons++
	limit := s.seeds[s.restarts%len(s.seeds)]%100 + 1
	if uint64(s.clashes) < limit || s.state != running {
		return
	}
	s.restarts, s.clashes = s.restarts+1, 0
	if s.lessons < fewLessons {
		return
	}
	s.lessons = 0
	next := s.pick()
	level := min(len(s.assumed), s.row.Level())
	for level < s.row.Level() && next > 0 {
		decision, _ := s.row.At(s.starts[level])
		if s.order.Weight(atomOf(decision)-1) <= s.order.Weight(next-1) {
			break
		}
		level++
	}
	s.back(level)
}
