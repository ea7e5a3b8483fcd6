package clauses

import (
	"slices"

	"jurist/api"
)

// Store has clauses.
type Store struct {
	clauses [][]api.Lit
	first   map[string]int // the first index of each clause
	atoms   int
}

// New makes a store without clauses.
func New() *Store { return &Store{first: map[string]int{}} }

// Add stores a clause.
func (s *Store) Add(c []api.Lit) (int, api.Errno) {
	switch {
	case s == nil || s.first == nil:
		return 0, api.ErrNil
	case !May(c):
		return 0, api.ErrArg
	case len(s.clauses) >= api.MaxClauses:
		return 0, api.ErrFull
	}
	c = normal(c)
	index := len(s.clauses)
	s.clauses = append(s.clauses, c)
	if key := keyOf(c); !s.has(key) {
		s.first[key] = index
	}
	for _, l := range c {
		s.atoms = max(s.atoms, int(max(l, -l)))
	}
	return index, api.OK
}

func (s *Store) has(key string) bool {
	_, there := s.first[key]
	return there
}

// keyOf tells literals in normal form from all others.
func keyOf(c []api.Lit) string {
	b := make([]byte, 0, 4*len(c))
	for _, l := range c {
		b = append(b, byte(l), byte(l>>8), byte(l>>16), byte(l>>24))
	}
	return string(b)
}

// Len is how many clauses there are.
func (s *Store) Len() int {
	if s == nil {
		return 0
	}
	return len(s.clauses)
}

// Clause is a clause's normal form.
func (s *Store) Clause(i int) []api.Lit {
	if i < 0 || i >= s.Len() {
		return nil
	}
	return slices.Clone(s.clauses[i])
}

// Find is the first clause that has the same literals.
func (s *Store) Find(c []api.Lit) (int, bool) {
	if s.Len() == 0 || slices.ContainsFunc(c, func(l api.Lit) bool { return !isLit(l) }) {
		return 0, false
	}
	i, there := s.first[keyOf(normal(c))]
	return i, there
}

// Atoms is the greatest atom of all clauses.
func (s *Store) Atoms() int {
	if s == nil {
		return 0
	}
	return s.atoms
}
