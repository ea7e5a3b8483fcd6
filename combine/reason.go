package combine

import (
	"slices"

	"jurist/api"
	"jurist/clauses"
	"jurist/cycles"
	"jurist/links"
)

func linksStep(l []api.Link) api.Step { return api.Step{Kind: api.StepLinks, Links: l} }

// reasonOf is the reason that a certificate gives. A certificate that is too long to be checked gives a clause that is none, by which the search stops.
func reasonOf(s api.Step) api.Reason {
	lits := s.Lits
	for _, l := range s.Links {
		if l.Kind == api.LinkGiven || l.Kind == api.LinkAgainst {
			lits = append(lits, l.Lit)
		}
	}
	if len(lits) > api.MaxClause || len(s.Links) > api.MaxLinks {
		return api.Reason{Clause: []api.Lit{0}}
	}
	return api.Reason{Clause: negated(lits), Step: s}
}

// negated is the clause that not all of some literals are true.
func negated(l []api.Lit) []api.Lit {
	l = slices.Clone(l)
	for i := range l {
		l[i] = -l[i]
	}
	l, _ = clauses.Normal(l)
	return l
}

func copyReason(r api.Reason) api.Reason {
	r.Clause = slices.Clone(r.Clause)
	r.Step.Lits = slices.Clone(r.Step.Lits)
	r.Step.Links = slices.Clone(r.Step.Links)
	for i := range r.Step.Links {
		r.Step.Links[i].List = slices.Clone(r.Step.Links[i].List)
	}
	return r
}

// Clause is the clause that a step's certificate gives.
func Clause(p api.Problem, s api.Step) ([]api.Lit, api.Errno) {
	if !may(p) {
		return nil, api.ErrArg
	}
	var lits []api.Lit
	var e api.Errno
	switch s.Kind {
	case api.StepLinks:
		lits, e = links.Check(p.Vertices, p.Atoms, s.Links)
	case api.StepCycle:
		lits, e = cycles.Check(p.Atoms, s.Lits)
	default:
		return nil, api.ErrArg
	}
	if e != api.OK {
		return nil, api.ErrForm
	}
	return negated(lits), api.OK
}
