package driver

import (
	"jurist/answers"
	"jurist/api"
	"jurist/decide"
	"jurist/digits"
	"jurist/elab"
	"jurist/proof"
	"jurist/world"
)

func (d *Driver) setLogic(args []api.Tree) reply {
	if args[0].Tok.Text != "QF_UFIDL" {
		return reply{unsupported: true}
	}
	return failed(d.stack.Logic())
}

func (d *Driver) setOption(args []api.Tree) reply {
	options := d.stack.Options()
	var option *bool
	switch args[0].Tok.Text {
	case "produce-models":
		option = &options.Models
	case "produce-proofs":
		option = &options.Proofs
	case "print-success":
		option = &options.Success
	default:
		return reply{unsupported: true}
	}
	value := args[1].Tok.Text
	if !isA(args[1], api.TokSymbol) || value != "true" && value != "false" {
		return failed(api.ErrForm)
	}
	*option = value == "true"
	return failed(d.stack.Set(options))
}

func (d *Driver) setInfo([]api.Tree) reply { return reply{} }

func (d *Driver) getInfo(args []api.Tree) reply {
	if args[0].Tok.Text != "reason-unknown" {
		return reply{unsupported: true}
	}
	if !d.decided || d.last.Answer != api.AnswerUnknown {
		return failed(api.ErrState)
	}
	if d.last.Reason == api.ReasonFull {
		return reply{text: "(:reason-unknown full)"}
	}
	return reply{text: "(:reason-unknown budget)"}
}

func (d *Driver) declareSort(args []api.Tree) reply {
	if args[1].Tok.Text != "0" {
		return reply{unsupported: true}
	}
	return failed(d.stack.DeclareSort(args[0].Tok.Text))
}

func (d *Driver) declareFun(args []api.Tree) reply {
	return failed(d.stack.DeclareFun(args[0].Tok.Text, args[1].Kids, args[2]))
}

func (d *Driver) declareConst(args []api.Tree) reply {
	return failed(d.stack.DeclareFun(args[0].Tok.Text, nil, args[1]))
}

func (d *Driver) defineFun(args []api.Tree) reply {
	var params []string
	var sorts []api.Tree
	for _, pair := range args[1].Kids {
		params = append(params, pair.Kids[0].Tok.Text)
		sorts = append(sorts, pair.Kids[1])
	}
	return failed(d.stack.DefineFun(args[0].Tok.Text, params, sorts, args[2], args[3]))
}

func (d *Driver) assert(args []api.Tree) reply { return failed(d.stack.Assert(args[0])) }

func (d *Driver) push(args []api.Tree) reply { return failed(d.stack.Push(count(args))) }

func (d *Driver) pop(args []api.Tree) reply { return failed(d.stack.Pop(count(args))) }

// count is how many scopes a push or pop speaks of.
func count(args []api.Tree) int {
	if len(args) == 0 {
		return 1
	}
	n, _ := digits.Read(args[0].Tok.Text)
	return int(n)
}

func (d *Driver) checkSat([]api.Tree) reply {
	if !d.stack.HasLogic() {
		return failed(api.ErrLogic)
	}
	v, e := decide.Decide(d.stack.Book(), d.stack.Assertions(), d.seeds, d.budget)
	if e != api.OK {
		return failed(e)
	}
	d.last, d.decided = v, true
	return reply{text: answers.Answer(v.Answer)}
}

// mayShow tells whether the last verdict is an answer, and its option is set.
func (d *Driver) mayShow(option bool, a api.Answer) bool {
	return option && d.decided && d.last.Answer == a
}

func (d *Driver) getModel([]api.Tree) reply {
	if !d.mayShow(d.stack.Options().Models, api.AnswerSat) {
		return failed(api.ErrState)
	}
	text, e := answers.Model(d.stack.Book().Names, d.last.World)
	return reply{e: e, text: text}
}

func (d *Driver) getValue(args []api.Tree) reply {
	if !d.mayShow(d.stack.Options().Models, api.AnswerSat) {
		return failed(api.ErrState)
	}
	book := *d.stack.Book()
	book.Store = book.Store.Copy()
	var asked []api.Term
	for _, x := range args[0].Kids {
		t, e := elab.Term(&book, x)
		if e != api.OK {
			return failed(e)
		}
		asked = append(asked, t)
	}
	values, e := world.Values(book.Store, d.last.World, asked...)
	if e != api.OK {
		return failed(e)
	}
	text, e := answers.Values(book.Names, args[0].Kids, values)
	return reply{e: e, text: text}
}

func (d *Driver) getProof([]api.Tree) reply {
	if !d.mayShow(d.stack.Options().Proofs, api.AnswerUnsat) {
		return failed(api.ErrState)
	}
	text, e := proof.Text(d.last.Steps)
	return reply{e: e, text: text}
}

func (d *Driver) exit([]api.Tree) reply {
	d.done = true
	return reply{}
}
