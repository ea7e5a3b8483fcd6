package elab

import (
	"maps"

	"jurist/api"
	"jurist/digits"
)

// value is what a tree denotes: a linear expression, or a term of another sort.
type value struct {
	linear bool
	term   api.Term         // if it is not linear
	num    int64            // the constant of a linear one
	bases  map[api.Term]int // how often each base is added; below 0: subtracted; never 0
}

func constant(n int64) value { return value{linear: true, num: n} }

// combine is a and b together, or a less b.
func combine(a, b value, sign int) (value, api.Errno) {
	v := value{linear: true, num: a.num, bases: maps.Clone(a.bases)}
	return v, v.add(b, sign)
}

// add adds b to a value, or subtracts it; the bases must be the value's own.
func (v *value) add(b value, sign int) api.Errno {
	add := digits.Add
	if sign < 0 {
		add = digits.Sub
	}
	sum, fits := add(v.num, b.num)
	if !fits || !inBounds(sum) {
		return api.ErrOverflow
	}
	v.num = sum
	if v.bases == nil {
		v.bases = map[api.Term]int{}
	}
	for base, times := range b.bases {
		total := v.bases[base] + sign*times
		if total == 0 {
			delete(v.bases, base)
		} else {
			v.bases[base] = total
		}
	}
	return api.OK
}

func inBounds(n int64) bool { return n >= -api.MaxNumeral && n <= api.MaxNumeral }

// plain tells whether a linear expression has a term, and its base, or Zero.
func (v value) plain() (api.Term, bool) {
	x, y, ok := v.sides()
	return x, ok && y == api.Zero
}

// sides are the one base that is added and the one that is subtracted, Zero for none; it is false if there are more.
func (v value) sides() (x, y api.Term, ok bool) {
	x, y = api.Zero, api.Zero
	if len(v.bases) > 2 {
		return x, y, false
	}
	for base, times := range v.bases {
		switch {
		case times == 1 && x == api.Zero:
			x = base
		case times == -1 && y == api.Zero:
			y = base
		default:
			return api.Zero, api.Zero, false
		}
	}
	return x, y, true
}

// termOf is the term of a value.
func (r *reader) termOf(v value) (api.Term, api.Errno) {
	if !v.linear {
		return v.term, api.OK
	}
	base, ok := v.plain()
	if !ok {
		return 0, api.ErrLinear
	}
	return r.book.Store.Plus(base, v.num)
}

// valueOf is the value that has a term.
func (r *reader) valueOf(t api.Term) value {
	base, offset, e := r.book.Store.Split(t)
	switch {
	case e != api.OK:
		return value{term: t}
	case base == api.Zero:
		return constant(offset)
	}
	return value{linear: true, num: offset, bases: map[api.Term]int{base: 1}}
}

// difference is two values' difference: the base that is added, the one that is subtracted, and the constant.
func difference(a, b value) (x, y api.Term, n int64, e api.Errno) {
	d, e := combine(a, b, -1)
	if e != api.OK {
		return 0, 0, 0, e
	}
	x, y, ok := d.sides()
	if !ok {
		return 0, 0, 0, api.ErrLinear
	}
	return x, y, d.num, api.OK
}
