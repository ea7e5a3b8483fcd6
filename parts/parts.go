// Package parts goes through terms, their arguments, the arguments of those, and so on.
package parts

import (
	"iter"

	"jurist/api"
	"jurist/terms"
)

// Of is the parts of some terms of a store with their nodes, each part once, in order of increasing numbers: arguments come ahead of the parts that have them.
func Of(s *terms.Store, l ...api.Term) iter.Seq2[api.Term, api.Node] {
	return func(yield func(api.Term, api.Node) bool) {
		nodes := reached(s, l)
		for t, n := range nodes {
			if n.Op != 0 && !yield(api.Term(t), n) {
				return
			}
		}
	}
}

// reached is the nodes of the parts, at their numbers; other numbers have a node without an operator.
func reached(s *terms.Store, l []api.Term) []api.Node {
	most := -1
	for _, t := range l {
		if Has(s, t) {
			most = max(most, int(t))
		}
	}
	nodes := make([]api.Node, most+1)
	wanted := make([]bool, most+1)
	for _, t := range l {
		if Has(s, t) {
			wanted[t] = true
		}
	}
	for t := most; t >= 0; t-- {
		if !wanted[t] {
			continue
		}
		nodes[t], _ = s.Node(api.Term(t))
		for _, a := range nodes[t].Args {
			wanted[a] = true
		}
	}
	return nodes
}

// Has tells whether a term is one of a store's.
func Has(s *terms.Store, t api.Term) bool { return t >= 0 && int(t) < s.Len() }
