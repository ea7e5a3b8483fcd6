package elab

import "jurist/api"

// ofTerms is the form of a connective, whose arguments are terms.
func ofTerms(make func(r *reader, l []api.Term) (api.Term, api.Errno)) func(*reader, []api.Tree, *locals) (value, api.Errno) {
	return func(r *reader, args []api.Tree, l *locals) (value, api.Errno) {
		given, e := r.terms(args, l)
		if e != api.OK {
			return value{}, e
		}
		t, e := make(r, given)
		if e != api.OK {
			return value{}, e
		}
		return r.valueOf(t), api.OK
	}
}

// chain is the form of a relation: it holds between neighbors.
func chain(relate func(r *reader, a, b value) (api.Term, api.Errno), linear bool) func(*reader, []api.Tree, *locals) (value, api.Errno) {
	return func(r *reader, args []api.Tree, l *locals) (value, api.Errno) {
		given, e := r.values(args, l, linear)
		if e != api.OK {
			return value{}, e
		}
		var all []api.Term
		for i := 1; i < len(given); i++ {
			t, e := relate(r, given[i-1], given[i])
			if e != api.OK {
				return value{}, e
			}
			all = append(all, t)
		}
		t, e := r.book.Store.And(all...)
		if e != api.OK {
			return value{}, e
		}
		return value{term: t}, api.OK
	}
}

// values elaborates trees from left to right; all must be linear expressions, if that is asked for.
func (r *reader) values(trees []api.Tree, l *locals, linear bool) ([]value, api.Errno) {
	var made []value
	wrong := false
	for _, x := range trees {
		v, e := r.value(x, l)
		if e != api.OK {
			return nil, e
		}
		wrong = wrong || linear && !v.linear
		made = append(made, v)
	}
	if wrong {
		return nil, api.ErrSort
	}
	return made, api.OK
}

func (r *reader) not(l []api.Term) (api.Term, api.Errno) { return r.book.Store.Not(l[0]) }

func (r *reader) and(l []api.Term) (api.Term, api.Errno) { return r.book.Store.And(l...) }

func (r *reader) or(l []api.Term) (api.Term, api.Errno) { return r.book.Store.Or(l...) }

func (r *reader) ite(l []api.Term) (api.Term, api.Errno) { return r.book.Store.Ite(l[0], l[1], l[2]) }

// notEqual is Not of Eq.
func (r *reader) notEqual(a, b api.Term) (api.Term, api.Errno) {
	t, e := r.book.Store.Eq(a, b)
	if e != api.OK {
		return 0, e
	}
	return r.book.Store.Not(t)
}

func (r *reader) xor(l []api.Term) (api.Term, api.Errno) {
	for _, t := range l {
		if r.sort(t) != api.Bool {
			return 0, api.ErrSort
		}
	}
	t := l[0]
	for _, next := range l[1:] {
		var e api.Errno
		if t, e = r.notEqual(t, next); e != api.OK {
			return 0, e
		}
	}
	return t, api.OK
}

func (r *reader) implies(l []api.Term) (api.Term, api.Errno) {
	last := len(l) - 1
	t := l[last]
	for i := last - 1; i >= 0; i-- {
		not, e := r.book.Store.Not(l[i])
		if e != api.OK {
			return 0, e
		}
		if t, e = r.book.Store.Or(not, t); e != api.OK {
			return 0, e
		}
	}
	return t, api.OK
}

func (r *reader) distinct(l []api.Term) (api.Term, api.Errno) {
	if len(l)*(len(l)-1)/2 > api.MaxKids {
		return 0, api.ErrLong
	}
	var all []api.Term
	for i, a := range l {
		for _, b := range l[i+1:] {
			t, e := r.notEqual(a, b)
			if e != api.OK {
				return 0, e
			}
			all = append(all, t)
		}
	}
	return r.book.Store.And(all...)
}

func (r *reader) equal(a, b value) (api.Term, api.Errno) {
	if a.linear != b.linear {
		return 0, api.ErrSort
	}
	_, first := a.plain()
	_, second := b.plain()
	if a.linear && !(first && second) {
		return r.equalSides(a, b)
	}
	s, e := r.termOf(a)
	if e != api.OK {
		return 0, e
	}
	t, e := r.termOf(b)
	if e != api.OK {
		return 0, e
	}
	return r.book.Store.Eq(s, t)
}

// equalSides is an equality whose sides have no terms, but whose difference has two.
func (r *reader) equalSides(a, b value) (api.Term, api.Errno) {
	x, y, n, e := difference(a, b)
	if e != api.OK {
		return 0, e
	}
	right, e := r.book.Store.Plus(y, -n)
	if e != api.OK {
		return 0, e
	}
	return r.book.Store.Eq(x, right)
}

func (r *reader) atMost(a, b value) (api.Term, api.Errno) {
	x, y, n, e := difference(a, b)
	if e != api.OK {
		return 0, e
	}
	return r.book.Store.Le(x, y, -n)
}

func (r *reader) less(a, b value) (api.Term, api.Errno) {
	x, y, n, e := difference(a, b)
	if e != api.OK {
		return 0, e
	}
	return r.book.Store.Le(x, y, -n-1)
}

func (r *reader) atLeast(a, b value) (api.Term, api.Errno) {
	x, y, n, e := difference(a, b)
	if e != api.OK {
		return 0, e
	}
	return r.book.Store.Le(y, x, n)
}

func (r *reader) more(a, b value) (api.Term, api.Errno) {
	x, y, n, e := difference(a, b)
	if e != api.OK {
		return 0, e
	}
	return r.book.Store.Le(y, x, n-1)
}

func (r *reader) sum(args []api.Tree, l *locals) (value, api.Errno) {
	return r.total(args, l, 1)
}

func (r *reader) minus(args []api.Tree, l *locals) (value, api.Errno) {
	if len(args) > 1 {
		return r.total(args, l, -1)
	}
	given, e := r.values(args, l, true)
	if e != api.OK {
		return value{}, e
	}
	v, e := combine(constant(0), given[0], -1)
	if e != api.OK {
		return value{}, e
	}
	return v, api.OK
}

// total is the first value and all others, added or subtracted.
func (r *reader) total(args []api.Tree, l *locals, sign int) (value, api.Errno) {
	given, e := r.values(args, l, true)
	if e != api.OK {
		return value{}, e
	}
	v, e := combine(given[0], constant(0), 1)
	for i := 1; i < len(given) && e == api.OK; i++ {
		e = v.add(given[i], sign)
	}
	if e != api.OK {
		return value{}, e
	}
	return v, api.OK
}
