package elab

import (
	"jurist/api"
	"jurist/digits"
	"jurist/sorts"
)

// reader elaborates trees, and counts them.
type reader struct {
	book    *Book
	count   int
	forms   map[string]form
	scratch *sorts.Table // tells which names may be a function's
}

// form is how a list of a keyword is elaborated: how many arguments it has, 0 for no greatest number, and what it makes of them.
type form struct {
	least, most int
	make        func(r *reader, args []api.Tree, l *locals) (value, api.Errno)
}

func newReader(b *Book) *reader {
	return &reader{book: b, forms: forms(), scratch: sorts.New()}
}

// forms are the keywords' forms, but for let.
func forms() map[string]form {
	return map[string]form{
		"not":      {1, 1, ofTerms((*reader).not)},
		"and":      {2, 0, ofTerms((*reader).and)},
		"or":       {2, 0, ofTerms((*reader).or)},
		"xor":      {2, 0, ofTerms((*reader).xor)},
		"=>":       {2, 0, ofTerms((*reader).implies)},
		"ite":      {3, 3, ofTerms((*reader).ite)},
		"distinct": {2, 0, ofTerms((*reader).distinct)},
		"=":        {2, 0, chain((*reader).equal, false)},
		"<=":       {2, 0, chain((*reader).atMost, true)},
		"<":        {2, 0, chain((*reader).less, true)},
		">=":       {2, 0, chain((*reader).atLeast, true)},
		">":        {2, 0, chain((*reader).more, true)},
		"+":        {2, 0, (*reader).sum},
		"-":        {1, 0, (*reader).minus},
	}
}

// term elaborates a tree as a term.
func (r *reader) term(x api.Tree, l *locals) (api.Term, api.Errno) {
	v, e := r.value(x, l)
	if e != api.OK {
		return 0, e
	}
	return r.termOf(v)
}

// value elaborates a tree.
func (r *reader) value(x api.Tree, l *locals) (value, api.Errno) {
	r.count++
	switch {
	case r.count > api.MaxWork:
		return value{}, api.ErrLong
	case x.List:
		return r.list(x, l)
	case x.Tok.Kind == api.TokSymbol:
		return r.symbol(x.Tok.Text, l)
	case x.Tok.Kind == api.TokNumeral:
		n, e := digits.Read(x.Tok.Text)
		if e != api.OK {
			return value{}, e
		}
		return constant(n), api.OK
	}
	return value{}, api.ErrForm
}

func (r *reader) symbol(name string, l *locals) (value, api.Errno) {
	if t, there := l.find(name); there {
		return r.valueOf(t), api.OK
	}
	switch name {
	case "true":
		return value{term: api.True}, api.OK
	case "false":
		return value{term: api.False}, api.OK
	}
	fun, info, e := r.function(name)
	if e != api.OK {
		return value{}, e
	}
	if len(info.Args) > 0 {
		return value{}, api.ErrArity
	}
	return r.apply(fun, info, nil)
}

// function is the visible function of a name.
func (r *reader) function(name string) (int, api.Fun, api.Errno) {
	fun, e := r.book.Names.Fun(name)
	if e != api.OK {
		return 0, api.Fun{}, e
	}
	info, e := r.book.Names.Info(fun)
	return fun, info, e
}

// apply is a function's value at some arguments.
func (r *reader) apply(fun int, info api.Fun, args []api.Term) (value, api.Errno) {
	var t api.Term
	var e api.Errno
	if m, there := r.book.Macros[fun]; there {
		t, e = r.term(m.Body, bind(nil, m.Params, args))
	} else {
		t, e = r.book.Store.App(fun, info.Result, args...)
	}
	if e != api.OK {
		return value{}, e
	}
	return r.valueOf(t), api.OK
}

func (r *reader) list(x api.Tree, l *locals) (value, api.Errno) {
	if len(x.Kids) == 0 || !isSymbol(x.Kids[0]) {
		return value{}, api.ErrForm
	}
	head, args := x.Kids[0].Tok.Text, x.Kids[1:]
	if head == "let" {
		return r.let(args, l)
	}
	if f, there := r.forms[head]; there {
		if len(args) < f.least || f.most > 0 && len(args) > f.most {
			return value{}, api.ErrArity
		}
		return f.make(r, args, l)
	}
	fun, info, e := r.function(head)
	if e != api.OK {
		return value{}, e
	}
	if len(args) == 0 || len(args) != len(info.Args) {
		return value{}, api.ErrArity
	}
	given, e := r.terms(args, l)
	if e != api.OK {
		return value{}, e
	}
	for i, t := range given {
		if r.sort(t) != info.Args[i] {
			return value{}, api.ErrSort
		}
	}
	return r.apply(fun, info, given)
}

// terms elaborates trees as terms, from left to right.
func (r *reader) terms(trees []api.Tree, l *locals) ([]api.Term, api.Errno) {
	var made []api.Term
	for _, x := range trees {
		t, e := r.term(x, l)
		if e != api.OK {
			return nil, e
		}
		made = append(made, t)
	}
	return made, api.OK
}

func (r *reader) sort(t api.Term) api.Sort {
	n, _ := r.book.Store.Node(t)
	return n.Sort
}

func (r *reader) let(args []api.Tree, l *locals) (value, api.Errno) {
	if len(args) != 2 || !args[0].List || len(args[0].Kids) == 0 {
		return value{}, api.ErrForm
	}
	var names []string
	var trees []api.Tree
	for _, pair := range args[0].Kids {
		if !pair.List || len(pair.Kids) != 2 || !isSymbol(pair.Kids[0]) {
			return value{}, api.ErrForm
		}
		names = append(names, pair.Kids[0].Tok.Text)
		trees = append(trees, pair.Kids[1])
	}
	if e := r.names(names); e != api.OK {
		return value{}, e
	}
	bound, e := r.terms(trees, l)
	if e != api.OK {
		return value{}, e
	}
	return r.value(args[1], bind(l, names, bound))
}

// names tells whether some names may be bound together.
func (r *reader) names(l []string) api.Errno {
	for _, name := range l {
		if !r.mayBind(name) {
			return api.ErrName
		}
	}
	seen := map[string]int{}
	for i, name := range l {
		if _, there := seen[name]; there {
			return api.ErrTwice
		}
		seen[name] = i
	}
	return api.OK
}

func (r *reader) mayBind(name string) bool {
	if name != "" && name[0] == '.' {
		return true
	}
	// The result sort is none, so that nothing is ever declared: a name that may be is answered ErrNone.
	_, e := r.scratch.DeclareFun(api.Fun{Name: name, Result: -1})
	return e != api.ErrName
}
