// Package digits is layer 1: checked 64-bit arithmetic, two-word integers, and numerals.
package digits

import (
	"math"
	"math/bits"
	"strconv"

	"jurist/api"
)

// low62 are the bits of a normal Low.
const low62 = 1<<62 - 1

// tenPower is the greatest power of ten in a word; a chunk below it has at most tenDigits digits.
const (
	tenPower  = 10_000_000_000_000_000_000
	tenDigits = 19
)

// Add is a sum, if it fits.
func Add(a, b int64) (int64, bool) {
	sum := a + b
	if (a^sum)&(b^sum) < 0 {
		return 0, false
	}
	return sum, true
}

// Sub is a difference, if it fits.
func Sub(a, b int64) (int64, bool) {
	difference := a - b
	if (a^b)&(a^difference) < 0 {
		return 0, false
	}
	return difference, true
}

// Read is a numeral's number.
func Read(s string) (int64, api.Errno) {
	if s == "" || s[0] == '0' && len(s) > 1 {
		return 0, api.ErrForm
	}
	n, fits := int64(0), true
	for i := 0; i < len(s); i++ {
		if s[i] < '0' || s[i] > '9' {
			return 0, api.ErrForm
		}
		digit := int64(s[i] - '0')
		if n > (api.MaxNumeral-digit)/10 {
			fits = false
		}
		if fits {
			n = n*10 + digit
		}
	}
	if !fits {
		return 0, api.ErrOverflow
	}
	return n, api.OK
}

// Text is a number's text.
func Text(n int64) string { return strconv.FormatInt(n, 10) }

// Of is a number as an integer.
func Of(n int64) api.Int { return Normal(api.Int{Low: n}) }

// Normal is an integer as a normal one.
func Normal(a api.Int) api.Int { return Plus(a, api.Int{}) }

// Plus is a sum.
func Plus(a, b api.Int) api.Int {
	low := a.Low&low62 + b.Low&low62
	carry := a.Low>>62 + b.Low>>62 + low>>62
	return saturate(total([4]int64{a.High, b.High, carry}), low&low62)
}

// Minus is a difference.
func Minus(a, b api.Int) api.Int {
	high, low := minus(a, b)
	return saturate(high, low)
}

// Less tells which one is less.
func Less(a, b api.Int) bool {
	high, _ := minus(a, b)
	return int64(high[0]) < 0
}

// Write is an integer's text.
func Write(a api.Int) string {
	lower, carry := bits.Add64(uint64(a.High)<<62, uint64(a.Low), 0)
	upper, _ := bits.Add64(uint64(a.High>>2), uint64(a.Low>>63), carry)
	if int64(upper) >= 0 {
		return decimal([2]uint64{upper, lower})
	}
	lower, carry = bits.Add64(^lower, 1, 0)
	upper, _ = bits.Add64(^upper, 0, carry)
	return "-" + decimal([2]uint64{upper, lower})
}

// minus is a difference as a High of two words, which never saturates, and a normal Low.
func minus(a, b api.Int) ([2]uint64, int64) {
	low := a.Low&low62 - b.Low&low62
	carry := a.Low>>62 - b.Low>>62 + low>>62
	// The negative of the least word does not fit in a word, but its complement does.
	return total([4]int64{a.High, ^b.High, 1, carry}), low & low62
}

// total is the sum of a row of Highs, in two words, the upper one first.
func total(row [4]int64) [2]uint64 {
	var sum [2]uint64
	for _, high := range row {
		var carry uint64
		sum[1], carry = bits.Add64(sum[1], uint64(high), 0)
		sum[0], _ = bits.Add64(sum[0], uint64(high>>63), carry)
	}
	return sum
}

// saturate is an integer of a High of two words.
func saturate(high [2]uint64, low int64) api.Int {
	one := int64(high[1])
	switch {
	case uint64(one>>63) == high[0]:
		return api.Int{High: one, Low: low}
	case int64(high[0]) < 0:
		return api.Int{High: math.MinInt64}
	default:
		return api.Int{High: math.MaxInt64}
	}
}

// decimal is the numeral of two words, the upper one first.
func decimal(n [2]uint64) string {
	text := ""
	for {
		var rest uint64
		upper := n[0] / tenPower
		n[1], rest = bits.Div64(n[0]%tenPower, n[1], tenPower)
		n[0] = upper
		chunk := strconv.FormatUint(rest, 10)
		if n == [2]uint64{} {
			return chunk + text
		}
		for len(chunk) < tenDigits {
			chunk = "0" + chunk
		}
		text = chunk + text
	}
}
