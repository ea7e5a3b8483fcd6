package driver

import (
	"jurist/api"
	"jurist/digits"
)

// command is how a command is written and done, and whether the last verdict is gone with it.
type command struct {
	forms   []string
	changes bool
	do      func(d *Driver, args []api.Tree) reply
}

// commands are all commands. In a form, s is a symbol, k a keyword, n a numeral, t any tree, l a list, v a list of one tree or more, p a list of pairs of a symbol and a tree, and the point any number of trees.
func commands() map[string]command {
	return map[string]command{
		"set-logic":     {[]string{"s"}, false, (*Driver).setLogic},
		"set-option":    {[]string{"kt"}, false, (*Driver).setOption},
		"set-info":      {[]string{"k."}, false, (*Driver).setInfo},
		"get-info":      {[]string{"k"}, false, (*Driver).getInfo},
		"declare-sort":  {[]string{"sn"}, true, (*Driver).declareSort},
		"declare-fun":   {[]string{"slt"}, true, (*Driver).declareFun},
		"declare-const": {[]string{"st"}, true, (*Driver).declareConst},
		"define-fun":    {[]string{"sptt"}, true, (*Driver).defineFun},
		"assert":        {[]string{"t"}, true, (*Driver).assert},
		"push":          {[]string{"n", ""}, true, (*Driver).push},
		"pop":           {[]string{"n", ""}, true, (*Driver).pop},
		"check-sat":     {[]string{""}, false, (*Driver).checkSat},
		"get-model":     {[]string{""}, false, (*Driver).getModel},
		"get-value":     {[]string{"v"}, false, (*Driver).getValue},
		"get-proof":     {[]string{""}, false, (*Driver).getProof},
		"exit":          {[]string{""}, false, (*Driver).exit},
	}
}

// check is the error of arguments that have none of a command's forms, or a numeral that is too great.
func (c command) check(args []api.Tree) api.Errno {
	for _, form := range c.forms {
		if !hasForm(form, args) {
			continue
		}
		for i := range len(form) {
			if form[i] != 'n' {
				continue
			}
			if _, e := digits.Read(args[i].Tok.Text); e != api.OK {
				return e
			}
		}
		return api.OK
	}
	return api.ErrForm
}

func isA(x api.Tree, k api.TokenKind) bool { return !x.List && x.Tok.Kind == k }

func hasForm(form string, args []api.Tree) bool {
	for i := range len(form) {
		if form[i] == '.' {
			return true
		}
		if i >= len(args) || !hasKind(form[i], args[i]) {
			return false
		}
	}
	return len(args) == len(form)
}

func hasKind(kind byte, x api.Tree) bool {
	switch kind {
	case 's':
		return isA(x, api.TokSymbol)
	case 'k':
		return isA(x, api.TokKeyword)
	case 'n':
		_, e := digits.Read(x.Tok.Text)
		return isA(x, api.TokNumeral) && e != api.ErrForm
	case 'l':
		return x.List
	case 'v':
		return x.List && len(x.Kids) > 0
	case 'p':
		return x.List && arePairs(x.Kids)
	}
	return true
}

func arePairs(l []api.Tree) bool {
	for _, x := range l {
		if !x.List || len(x.Kids) != 2 || !isA(x.Kids[0], api.TokSymbol) {
			return false
		}
	}
	return true
}
