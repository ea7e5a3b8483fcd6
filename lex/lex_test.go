package lex

import (
	"slices"
	"strings"
	"testing"

	"jurist/api"
)

func tok(k api.TokenKind, text string, at int) api.Token {
	return api.Token{Kind: k, Text: text, At: at}
}

func TestTokens(t *testing.T) {
	cases := []struct {
		in   string
		want []api.Token
		at   int
		e    api.Errno
	}{
		{"", nil, 0, api.OK},
		{" \t\r\n;x|\"\x00\n ", nil, 11, api.OK},
		{"; to the end", nil, 12, api.OK},
		{"(a 07)", []api.Token{tok(api.TokOpen, "(", 0), tok(api.TokSymbol, "a", 1)}, 3, api.ErrForm},
		{`"a""b"`, []api.Token{tok(api.TokString, `a"b`, 0)}, 6, api.OK},
		{`"" """"`, []api.Token{tok(api.TokString, "", 0), tok(api.TokString, `"`, 3)}, 7, api.OK},
		{"\"|\\\t\n\r\x80\xff\"", []api.Token{tok(api.TokString, "|\\\t\n\r\x80\xff", 0)}, 9, api.OK},
		{"|a", nil, 0, api.ErrQuote},
		{"|a\\", nil, 0, api.ErrByte},
		{"x |a\x7f|", []api.Token{tok(api.TokSymbol, "x", 0)}, 2, api.ErrByte},
		{"\"a\x01", nil, 0, api.ErrByte},
		{"\"a\x7f\"", nil, 0, api.ErrByte},
		{"\"~ !\"|~|", []api.Token{tok(api.TokString, "~ !", 0), tok(api.TokSymbol, "~", 5)}, 8, api.OK},
		{"\"a", nil, 0, api.ErrQuote},
		{"\"a\"\"", nil, 0, api.ErrQuote},
		{"||a|b c\"(|", []api.Token{tok(api.TokSymbol, "", 0), tok(api.TokSymbol, "a", 2), tok(api.TokSymbol, "b c\"(", 3)}, 10, api.OK},
		{":k #b01 1.50 ; x", []api.Token{tok(api.TokKeyword, "k", 0), tok(api.TokOther, "#b01", 3), tok(api.TokOther, "1.50", 8)}, 16, api.OK},
		{":1.a", []api.Token{tok(api.TokKeyword, "1.a", 0)}, 4, api.OK},
		{": a", nil, 0, api.ErrByte}, {":", nil, 0, api.ErrByte}, {"a #", []api.Token{tok(api.TokSymbol, "a", 0)}, 2, api.ErrByte}, {"#(", nil, 0, api.ErrByte},
		{"#x0aF", []api.Token{tok(api.TokOther, "#x0aF", 0)}, 5, api.OK},
		{"#x", nil, 0, api.ErrForm}, {"#b", nil, 0, api.ErrForm}, {"#b02", nil, 0, api.ErrForm}, {"#xg", nil, 0, api.ErrForm}, {"#o7", nil, 0, api.ErrForm}, {"#x1-", nil, 0, api.ErrForm},
		{"0 10 0.0 10.010", []api.Token{tok(api.TokNumeral, "0", 0), tok(api.TokNumeral, "10", 2), tok(api.TokOther, "0.0", 5), tok(api.TokOther, "10.010", 9)}, 15, api.OK},
		{"00", nil, 0, api.ErrForm}, {"01.5", nil, 0, api.ErrForm}, {"1.", nil, 0, api.ErrForm}, {"1.5.2", nil, 0, api.ErrForm}, {"1a", nil, 0, api.ErrForm}, {"1.a", nil, 0, api.ErrForm}, {"1+", nil, 0, api.ErrForm},
		{"-1 .5 @a =>", []api.Token{tok(api.TokSymbol, "-1", 0), tok(api.TokSymbol, ".5", 3), tok(api.TokSymbol, "@a", 6), tok(api.TokSymbol, "=>", 9)}, 11, api.OK},
		{"1(2)", []api.Token{tok(api.TokNumeral, "1", 0), tok(api.TokOpen, "(", 1), tok(api.TokNumeral, "2", 2), tok(api.TokClose, ")", 3)}, 4, api.OK},
		{"a{", []api.Token{tok(api.TokSymbol, "a", 0)}, 1, api.ErrByte}, {"\x00", nil, 0, api.ErrByte}, {"é", nil, 0, api.ErrByte}, {"'", nil, 0, api.ErrByte}, {"\\", nil, 0, api.ErrByte},
		{"a;b\nc", []api.Token{tok(api.TokSymbol, "a", 0), tok(api.TokSymbol, "c", 4)}, 5, api.OK},
	}
	for _, c := range cases {
		got, at, e := Tokens([]byte(c.in))
		if !slices.Equal(got, c.want) || at != c.at || e != c.e {
			t.Errorf("Tokens(%q) = %v, %d, %d", c.in, got, at, e)
		}
	}
}

func TestLength(t *testing.T) {
	if l, at, e := Tokens([]byte("a" + strings.Repeat(" ", api.MaxScript))); l != nil || at != 0 || e != api.ErrLong {
		t.Error("more than MaxScript bytes")
	}
	if l, at, e := Tokens([]byte(strings.Repeat("a", api.MaxScript))); len(l) != 1 || at != api.MaxScript || e != api.OK {
		t.Error("MaxScript bytes")
	}
}

func TestOwnMemory(t *testing.T) {
	b := []byte("abc |d e| \"f\" :g 12")
	l, _, _ := Tokens(b)
	for i := range b {
		b[i] = 'z'
	}
	for i, want := range []string{"abc", "d e", "f", "g", "12"} {
		if l[i].Text != want {
			t.Error("a token shares memory with the bytes", l[i])
		}
	}
}

const symbolBytes = "abcdefghijklmnopqrstuvwxyzABCDEFGHIJKLMNOPQRSTUVWXYZ0123456789~!@$%^&*_-+=<>.?/"

func TestPlain(t *testing.T) {
	for b := range 256 {
		s := string([]byte{byte(b)})
		is := strings.Contains(symbolBytes, s)
		if Plain("a"+s) != is || Plain(s) != (is && (b < '0' || b > '9')) {
			t.Error("Plain", b)
		}
	}
	if Plain("") || Plain("a b") || Plain("1a") || !Plain("a1") {
		t.Error("Plain")
	}
}

func TestAloneAndApart(t *testing.T) {
	words := []string{"(", ")", "a-b", "|x y|", "\"s\"\"t\"", ":key", "12", "1.5", "#xFF", "#b1"}
	for _, gap := range []string{" ", "\n", ";c\n", "\t ;|\"\r\n\r "} {
		l, _, e := Tokens([]byte(gap + strings.Join(words, gap) + gap))
		if e != api.OK || len(l) != len(words) {
			t.Fatal("tokens", len(l), e)
		}
		for i, w := range words {
			alone, _, _ := Tokens([]byte(w))
			if len(alone) != 1 || alone[0].Kind != l[i].Kind || alone[0].Text != l[i].Text {
				t.Error("token alone", w)
			}
		}
	}
}
