package combine

import (
	"slices"

	"jurist/api"
	"jurist/digits"
)

// Final tells whether a full assignment has an arrangement, or which two vertices are to be looked at first.
func (t *Theory) Final() (api.Final, api.Reason, api.Split) {
	if !t.ready() {
		return api.FinalStop, api.Reason{}, api.Split{}
	}
	if len(t.clashes) > 0 {
		return api.FinalConflict, copyReason(t.clashes[len(t.clashes)-1].reason), api.Split{}
	}
	full, v, w, found := t.arrange()
	if !found {
		t.full, t.accepted = full, true
		return api.FinalOK, api.Reason{}, api.Split{}
	}
	split, ok := t.split(v, w)
	if !ok {
		return api.FinalStop, api.Reason{}, api.Split{}
	}
	return api.FinalSplit, api.Reason{}, split
}

// The gaps of the integers that are tried, if the net's own ones make arguments equal by chance: small ones for variables within narrow bounds, great ones for those with offsets.
const (
	smallGap = 1
	greatGap = 1000
)

// arrange is an arrangement, or two vertices that stand against the ones that were tried.
func (t *Theory) arrange() (full api.Full, v, w int, found bool) {
	full = t.arrangement()
	if v, w, found = t.classPair(full); found {
		return full, v, w, true
	}
	if v, w, found = t.argumentPair(full); !found {
		return full, 0, 0, false
	}
	own := full.Vars
	for _, gap := range [...]int64{smallGap, greatGap} {
		full.Vars = t.spread(own, gap)
		a, b, against := t.classPair(full)
		if !against {
			a, b, against = t.argumentPair(full)
		}
		if !against {
			return full, 0, 0, false
		}
		if _, known := t.known[[2]int{a, b}]; !known {
			v, w = a, b
		}
	}
	return full, v, w, true
}

// arrangement is the classes and the integers at present.
func (t *Theory) arrangement() api.Full {
	full := api.Full{Class: make([]int, len(t.vertices)), Vars: make([]api.Int, t.vars)}
	for v := range full.Class {
		full.Class[v] = t.euf.Class(v)
	}
	for x := range full.Vars {
		full.Vars[x] = t.idl.Value(x)
	}
	return full
}

// value is the integer of a vertex of sort Int.
func (t *Theory) value(full api.Full, v int) api.Int {
	return digits.Plus(full.Vars[t.vertices[v].Var], digits.Of(t.vertices[v].Off))
}

// classPair is the first two vertices of one class whose integers differ.
func (t *Theory) classPair(full api.Full) (int, int, bool) {
	first := map[int]int{} // of each class, its first vertex of sort Int
	for w, x := range t.vertices {
		if x.Sort != api.Int1 {
			continue
		}
		v, there := first[full.Class[w]]
		if !there {
			first[full.Class[w]] = w
		} else if t.value(full, v) != t.value(full, w) {
			return v, w, true
		}
	}
	return 0, 0, false
}

// argumentPair is the first two arguments of equal integers that keep applications of agreeing arguments apart.
func (t *Theory) argumentPair(full api.Full) (int, int, bool) {
	filed := map[string]int{}
	for w, x := range t.vertices {
		if x.Fun < 0 {
			continue
		}
		key := t.key(full, x)
		v, there := filed[key]
		if !there {
			filed[key] = w
			continue
		}
		if full.Class[v] == full.Class[w] {
			continue
		}
		for k, b := range x.Args {
			a := t.vertices[v].Args[k]
			if t.vertices[a].Sort == api.Int1 && full.Class[a] != full.Class[b] {
				return min(a, b), max(a, b), true
			}
		}
	}
	return 0, 0, false
}

// key tells an application's function and what its arguments agree by from all others.
func (t *Theory) key(full api.Full, x api.Vertex) string {
	b := number(nil, int64(x.Fun))
	for _, arg := range x.Args {
		if t.vertices[arg].Sort == api.Int1 {
			i := t.value(full, arg)
			b = number(number(append(b, 'i'), i.High), i.Low)
		} else {
			b = number(append(b, 'c'), int64(full.Class[arg]))
		}
	}
	return string(b)
}

func number(b []byte, n int64) []byte {
	for shift := 0; shift < 64; shift += 8 {
		b = append(b, byte(n>>shift))
	}
	return b
}

// split asks for the atoms and clauses by which two vertices can be equal.
func (t *Theory) split(v, w int) (api.Split, bool) {
	atoms, made, e := t.ask(v, w)
	if e != api.OK || len(atoms) == 0 {
		return api.Split{}, false
	}
	for _, a := range atoms {
		if !mayAtom(a, len(t.vertices), t.vars) {
			return api.Split{}, false
		}
	}
	for _, a := range atoms {
		t.add(a)
	}
	split := api.Split{Atoms: len(atoms), Step: api.Step{Kind: api.StepPair, A: v, B: w}}
	for _, c := range made {
		split.Clauses = append(split.Clauses, slices.Clone(c))
	}
	return split, true
}

// ask calls the pairing; one that panics is answered as one that returns an error.
func (t *Theory) ask(v, w int) (atoms []api.Atom, made [][]api.Lit, e api.Errno) {
	defer func() {
		if recover() != nil {
			atoms, made, e = nil, nil, api.ErrArg
		}
	}()
	return t.pair(v, w)
}
