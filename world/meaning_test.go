package world

import (
	"math/rand"
	"strconv"
	"strings"
	"testing"

	"jurist/api"
	"jurist/elab"
	"jurist/lex"
	"jurist/sorts"
	"jurist/terms"
	"jurist/tree"
)

// result is a number or a truth value.
type result struct {
	n int64
	b bool
}

// meaning is the standard meaning of a tree, with the names bound to results.
func meaning(x api.Tree, names map[string]result) result {
	if !x.List {
		if x.Tok.Kind == api.TokNumeral {
			n, _ := strconv.ParseInt(x.Tok.Text, 10, 64)
			return result{n: n}
		}
		return names[x.Tok.Text]
	}
	head := x.Kids[0].Tok.Text
	if head == "let" {
		inner := map[string]result{}
		for k, v := range names {
			inner[k] = v
		}
		for _, pair := range x.Kids[1].Kids {
			inner[pair.Kids[0].Tok.Text] = meaning(pair.Kids[1], names)
		}
		return meaning(x.Kids[2], inner)
	}
	var l []result
	for _, k := range x.Kids[1:] {
		l = append(l, meaning(k, names))
	}
	neighbors := func(ok func(a, b result) bool) result {
		for i := 1; i < len(l); i++ {
			if !ok(l[i-1], l[i]) {
				return result{}
			}
		}
		return result{b: true}
	}
	switch head {
	case "not":
		return result{b: !l[0].b}
	case "and", "or":
		b := head == "and"
		for _, r := range l {
			if r.b != b && r.b == (head == "or") {
				return result{b: r.b}
			}
		}
		return result{b: b}
	case "xor":
		b := false
		for _, r := range l {
			b = b != r.b
		}
		return result{b: b}
	case "=>":
		for _, r := range l[:len(l)-1] {
			if !r.b {
				return result{b: true}
			}
		}
		return l[len(l)-1]
	case "ite":
		if l[0].b {
			return l[1]
		}
		return l[2]
	case "=":
		return neighbors(func(a, b result) bool { return a == b })
	case "<":
		return neighbors(func(a, b result) bool { return a.n < b.n })
	case "<=":
		return neighbors(func(a, b result) bool { return a.n <= b.n })
	case ">":
		return neighbors(func(a, b result) bool { return a.n > b.n })
	case ">=":
		return neighbors(func(a, b result) bool { return a.n >= b.n })
	case "distinct":
		for i := range l {
			for j := range i {
				if l[i] == l[j] {
					return result{}
				}
			}
		}
		return result{b: true}
	case "+":
		sum := result{}
		for _, r := range l {
			sum.n += r.n
		}
		return sum
	}
	if len(l) == 1 {
		return result{n: -l[0].n}
	}
	for _, r := range l[1:] {
		l[0].n -= r.n
	}
	return l[0]
}

// script makes random trees that are of difference logic, more often than not.
type script struct{ *rand.Rand }

func (s script) several(head string, least int, make func(d int) string, d int) string {
	l := []string{"(" + head}
	for range least + s.Intn(2) {
		l = append(l, make(d-1))
	}
	return strings.Join(l, " ") + ")"
}

func (s script) number(d int) string {
	if d <= 0 {
		return []string{"x", "y", "z", "0", "1", "5"}[s.Intn(6)]
	}
	switch s.Intn(6) {
	case 0:
		return "(+ " + s.number(d-1) + " 3)"
	case 1:
		return "(- " + s.number(d-1) + " 2 1)"
	case 2:
		return "(ite " + s.truth(d-1) + " " + s.number(d-1) + " " + s.number(d-1) + ")"
	case 3:
		return "(- (- " + s.number(d-1) + "))"
	case 4:
		return "(let ((x " + s.number(d-1) + ") (k y)) " + "(+ x (- k y))" + ")"
	}
	return s.number(0)
}

func (s script) truth(d int) string {
	if d <= 0 {
		return []string{"p", "q", "true", "false"}[s.Intn(4)]
	}
	switch head := []string{"not", "and", "or", "xor", "=>", "ite", "=", "=", "distinct", "<", "<=", ">", ">=", "difference", "let"}[s.Intn(15)]; head {
	case "not":
		return "(not " + s.truth(d-1) + ")"
	case "ite":
		return "(ite " + s.truth(d-1) + " " + s.truth(d-1) + " " + s.truth(d-1) + ")"
	case "and", "or", "xor", "=>":
		return s.several(head, 2, s.truth, d)
	case "=":
		if s.Intn(2) == 0 {
			return s.several(head, 2, s.truth, d)
		}
		return s.several(head, 2, s.number, d)
	case "difference":
		return "(" + []string{"=", "<", "<=", ">", ">="}[s.Intn(5)] + " (- " + s.number(d-1) + " " + s.number(d-1) + ") " + strconv.Itoa(s.Intn(4)) + ")"
	case "let":
		return "(let ((p " + s.truth(d-1) + ") (q p)) " + s.truth(d-1) + ")"
	default:
		return s.several(head, 2, s.number, d)
	}
}

// TestStandardMeaning compares the values of terms with the meaning of the trees that they were made of.
func TestStandardMeaning(t *testing.T) {
	s := script{rand.New(rand.NewSource(28))}
	read := 0
	for range 4000 {
		b := &elab.Book{Names: sorts.New(), Store: terms.New()}
		for _, f := range []api.Fun{{Name: "x", Result: 1}, {Name: "y", Result: 1}, {Name: "z", Result: 1}, {Name: "p"}, {Name: "q"}} {
			b.Names.DeclareFun(f)
		}
		text := s.truth(1 + s.Intn(4))
		l, _, _ := lex.Tokens([]byte(text))
		x, _, _ := tree.Next(l, 0)
		v, e := elab.Term(b, x)
		if e == api.ErrLinear {
			continue
		}
		if e != api.OK {
			t.Fatal(text, e)
		}
		read++
		for range 8 {
			names := map[string]result{"true": {b: true}, "false": {}}
			w := api.World{}
			for f, n := range []string{"x", "y", "z"} {
				names[n] = result{n: s.Int63n(7) - 2}
				w.Funs = append(w.Funs, api.Table{Fun: f, Else: num(names[n].n)})
			}
			for f, n := range []string{"p", "q"} {
				names[n] = result{b: s.Intn(2) == 0}
				w.Funs = append(w.Funs, api.Table{Fun: 3 + f, Else: is(names[n].b)})
			}
			got, e := Value(b.Store, w, v)
			if want := meaning(x, names); e != api.OK || got.B != want.b {
				t.Fatal("meaning", text, got, want, names)
			}
		}
	}
	if read < 2000 {
		t.Error("few trees", read)
	}
}
