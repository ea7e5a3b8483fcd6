package proof

import (
	"jurist/api"
	"jurist/digits"
	"jurist/tree"
)

// Read is the step of a tree.
func Read(t api.Tree) (api.Step, api.Errno) {
	x, ok := stepOf(t)
	if !ok {
		return api.Step{}, api.ErrForm
	}
	// What was read stands for the tree only if it is written the same way.
	again, e := Tree(x)
	if e != api.OK || !tree.Same(again, t) {
		return api.Step{}, api.ErrForm
	}
	return x, api.OK
}

// ReadAll is the steps of a tree.
func ReadAll(t api.Tree) ([]api.Step, api.Errno) {
	if !t.List || t.Tok.Kind != api.TokOpen || t.Tok.Text != "(" {
		return nil, api.ErrForm
	}
	var l []api.Step
	for _, kid := range t.Kids {
		x, e := Read(kid)
		if e != api.OK {
			return nil, e
		}
		l = append(l, x)
	}
	return l, api.OK
}

// stepOf reads a step's fields; it is false if the tree is none of a step.
func stepOf(t api.Tree) (api.Step, bool) {
	head, args := parted(t)
	for kind, f := range stepForms() {
		if f.head != head {
			continue
		}
		x := api.Step{Kind: kind}
		r := fieldReader{left: args, ok: true}
		r.next(f.a, &x.A)
		r.next(f.b, &x.B)
		switch {
		case f.lits:
			x.Lits = rest[api.Lit](&r)
		case f.links:
			x.Links = r.links()
		}
		return x, r.ok && len(r.left) == 0
	}
	return api.Step{}, false
}

// linkOf reads a link's fields, likewise.
func linkOf(forms map[api.LinkKind]form, t api.Tree) (api.Link, bool) {
	head, args := parted(t)
	for kind, f := range forms {
		if f.head != head {
			continue
		}
		l := api.Link{Kind: kind}
		r := fieldReader{left: args, ok: true}
		lit := 0
		r.next(f.lit, &lit)
		l.Lit = api.Lit(lit)
		r.next(f.a, &l.A)
		r.next(f.b, &l.B)
		r.next(f.i, &l.I)
		r.next(f.j, &l.J)
		if f.list {
			l.List = rest[int](&r)
		}
		return l, r.ok && len(r.left) == 0
	}
	return api.Link{}, false
}

// parted is a list's head and its other elements; there is no head if it is not a symbol's.
func parted(t api.Tree) (string, []api.Tree) {
	if !t.List || len(t.Kids) == 0 || t.Kids[0].List || t.Kids[0].Tok.Kind != api.TokSymbol {
		return "", nil
	}
	return t.Kids[0].Tok.Text, t.Kids[1:]
}

// fieldReader reads fields one after the other.
type fieldReader struct {
	left []api.Tree
	ok   bool
}

// next reads a field, if the kind has it.
func (r *fieldReader) next(has bool, to *int) {
	if !has {
		return
	}
	if len(r.left) == 0 {
		r.ok = false
		return
	}
	n, ok := numberOf(r.left[0])
	*to, r.left, r.ok = n, r.left[1:], r.ok && ok
}

// rest reads all that is left as numbers.
func rest[T ~int](r *fieldReader) []T {
	var l []T
	for _, t := range r.left {
		n, ok := numberOf(t)
		r.ok = r.ok && ok
		l = append(l, T(n))
	}
	r.left = nil
	return l
}

func (r *fieldReader) links() []api.Link {
	var l []api.Link
	forms := linkForms()
	for _, t := range r.left {
		k, ok := linkOf(forms, t)
		r.ok = r.ok && ok
		l = append(l, k)
	}
	r.left = nil
	return l
}

func numberOf(t api.Tree) (int, bool) {
	if head, args := parted(t); head == "-" && len(args) == 1 && !args[0].List {
		n, ok := numberOf(args[0])
		return -n, ok
	}
	if t.List || t.Tok.Kind != api.TokNumeral {
		return 0, false
	}
	n, e := digits.Read(t.Tok.Text)
	return int(n), e == api.OK
}
