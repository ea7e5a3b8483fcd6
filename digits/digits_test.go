package digits

import (
	"math"
	"math/big"
	"math/rand"
	"strings"
	"testing"

	"jurist/api"
)

var edges = []int64{math.MinInt64, math.MinInt64 + 1, -1<<62 - 1, -1 << 62, -1<<62 + 1, -2, -1, 0, 1, 2, 1<<62 - 1, 1 << 62, 1<<62 + 1, math.MaxInt64 - 1, math.MaxInt64}

func value(a api.Int) *big.Int {
	v := new(big.Int).Lsh(big.NewInt(a.High), 62)
	return v.Add(v, big.NewInt(a.Low))
}

// wanted is the normal representation of a value, or where it saturates.
func wanted(v *big.Int) api.Int {
	low := new(big.Int).And(v, big.NewInt(1<<62-1))
	high := new(big.Int).Rsh(v, 62)
	if high.IsInt64() {
		return api.Int{High: high.Int64(), Low: low.Int64()}
	}
	if v.Sign() < 0 {
		return api.Int{High: math.MinInt64}
	}
	return api.Int{High: math.MaxInt64}
}

func ints() []api.Int {
	var l []api.Int
	for _, h := range edges {
		for _, w := range edges {
			l = append(l, api.Int{High: h, Low: w})
		}
	}
	r := rand.New(rand.NewSource(1))
	for range 50 {
		l = append(l, api.Int{High: int64(r.Uint64()) >> uint(r.Intn(64)), Low: int64(r.Uint64())})
	}
	return l
}

func TestAddSub(t *testing.T) {
	for _, a := range edges {
		for _, b := range edges {
			sum := new(big.Int).Add(big.NewInt(a), big.NewInt(b))
			n, ok := Add(a, b)
			if ok != sum.IsInt64() || ok && n != sum.Int64() || !ok && n != 0 {
				t.Error("Add", a, b, n, ok)
			}
			difference := new(big.Int).Sub(big.NewInt(a), big.NewInt(b))
			n, ok = Sub(a, b)
			if ok != difference.IsInt64() || ok && n != difference.Int64() || !ok && n != 0 {
				t.Error("Sub", a, b, n, ok)
			}
		}
	}
}

func TestRead(t *testing.T) {
	cases := []struct {
		text string
		n    int64
		e    api.Errno
	}{
		{"0", 0, api.OK}, {"1", 1, api.OK}, {"42", 42, api.OK}, {"4611686018427387903", 1<<62 - 1, api.OK},
		{"4611686018427387904", 0, api.ErrOverflow}, {"4611686018427387910", 0, api.ErrOverflow}, {"9223372036854775808", 0, api.ErrOverflow},
		{"18446744073709551617", 0, api.ErrOverflow}, {"1" + strings.Repeat("0", 100), 0, api.ErrOverflow},
		{"", 0, api.ErrForm}, {"007", 0, api.ErrForm}, {"00", 0, api.ErrForm}, {"-1", 0, api.ErrForm}, {"+1", 0, api.ErrForm}, {" 1", 0, api.ErrForm},
		{"1 ", 0, api.ErrForm}, {"1_0", 0, api.ErrForm}, {"1" + strings.Repeat("0", 100) + "x", 0, api.ErrForm}, {"٣", 0, api.ErrForm},
	}
	for _, c := range cases {
		if n, e := Read(c.text); n != c.n || e != c.e {
			t.Error("Read", c.text, n, e)
		}
	}
}

func TestText(t *testing.T) {
	for _, n := range edges {
		if Text(n) != big.NewInt(n).String() {
			t.Error("Text", n, Text(n))
		}
	}
}

func TestOfNormalWrite(t *testing.T) {
	for _, n := range edges {
		if Of(n) != wanted(big.NewInt(n)) {
			t.Error("Of", n, Of(n))
		}
	}
	for _, a := range ints() {
		if Normal(a) != wanted(value(a)) {
			t.Error("Normal", a, Normal(a))
		}
		if Write(a) != value(a).String() {
			t.Error("Write", a, Write(a))
		}
	}
}

func TestPlusMinusLess(t *testing.T) {
	all := ints()
	for _, a := range all {
		for _, b := range all {
			if got := Plus(a, b); got != wanted(new(big.Int).Add(value(a), value(b))) {
				t.Fatal("Plus", a, b, got)
			}
			if got := Minus(a, b); got != wanted(new(big.Int).Sub(value(a), value(b))) {
				t.Fatal("Minus", a, b, got)
			}
			if Less(a, b) != (value(a).Cmp(value(b)) < 0) {
				t.Fatal("Less", a, b)
			}
		}
	}
}

func TestLaws(t *testing.T) {
	r := rand.New(rand.NewSource(2))
	some := func() api.Int { return api.Int{High: r.Int63n(1<<40) - 1<<39, Low: int64(r.Uint64())} }
	for range 1000 {
		a, b, c := some(), some(), some()
		if Plus(Plus(a, b), c) != Plus(a, Plus(b, c)) || Plus(a, b) != Plus(b, a) || Plus(Minus(a, b), b) != Normal(a) || Minus(a, a) != (api.Int{}) {
			t.Fatal("laws", a, b, c)
		}
		if Normal(a) != Normal(b) && Less(a, b) == Less(b, a) {
			t.Fatal("order", a, b)
		}
	}
}
