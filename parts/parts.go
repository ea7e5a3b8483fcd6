// Package parts goes through terms, their arguments, the arguments of those, and so on.
package parts

import (
	"iter"
	"slices"

	"jurist/api"
	"jurist/terms"
)

// Of is the parts of some terms of a store with their nodes, each part once, in order of increasing numbers: arguments come ahead of the parts that have them.
func Of(s *terms.Store, l ...api.Term) iter.Seq2[api.Term, api.Node] {
	return func(yield func(api.Term, api.Node) bool) {
		nodes := reached(s, l)
		order := make([]api.Term, 0, len(nodes))
		for t := range nodes {
			order = append(order, t)
		}
		slices.Sort(order)
		for _, t := range order {
			if !yield(t, nodes[t]) {
				return
			}
		}
	}
}

// reached is the nodes of the parts.
func reached(s *terms.Store, l []api.Term) map[api.Term]api.Node {
	nodes := map[api.Term]api.Node{}
	left := slices.Clone(l)
	for len(left) > 0 {
		t := left[len(left)-1]
		left = left[:len(left)-1]
		if _, known := nodes[t]; known || !Has(s, t) {
			continue
		}
		nodes[t], _ = s.Node(t)
		left = append(left, nodes[t].Args...)
	}
	return nodes
}

// Has tells whether a term is one of a store's.
func Has(s *terms.Store, t api.Term) bool { return t >= 0 && int(t) < s.Len() }
