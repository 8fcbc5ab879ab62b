// Package num is layer 1: see shared/doc/01-num.md.
package num

import (
	"math"
	"strconv"
	"strings"
)

const (
	// widest is the greatest width that Pad fills up to.
	widest = 20
	// mostOctal is how many digits ParseOct reads at most.
	mostOctal = 7
)

// Dec is a number as decimal digits, with a minus sign ahead below 0.
func Dec(n int) string { return strconv.Itoa(n) }

// Oct is a number as octal digits; "" below 0.
func Oct(n int) string {
	if n < 0 {
		return ""
	}
	return strconv.FormatInt(int64(n), 8)
}

// Pad is Dec with zeros ahead, at least wide bytes; "" below 0, or if wide is above 20.
func Pad(n, wide int) string {
	if n < 0 || wide > widest {
		return ""
	}
	s := Dec(n)
	// The greater one first: wide-len(s) wraps round near the least int.
	return strings.Repeat("0", max(wide, len(s))-len(s)) + s
}

// Parse is the number that Dec writes as s; false: Dec writes none so.
func Parse(s string) (int, bool) {
	digits, minus := strings.CutPrefix(s, "-")
	if digits == "" || digits[0] == '0' && s != "0" {
		return 0, false
	}
	n, ok := negated(digits)
	if !ok || minus {
		return n, ok
	}
	if n == math.MinInt {
		return 0, false
	}
	return -n, true
}

// negated is the value of decimal digits times -1, because the least int has
// no positive counterpart; false: it is below the least int, or not all of
// the string are digits.
func negated(digits string) (int, bool) {
	n := 0
	for _, r := range digits {
		if r < '0' || r > '9' {
			return 0, false
		}
		d := int(r - '0')
		// Division rounds towards 0, so this is the least n for which
		// n*10-d does not wrap round.
		if n < (math.MinInt+d)/10 {
			return 0, false
		}
		n = n*10 - d
	}
	return n, true
}

// ParseOct is the value of one to seven octal digits, leading zeros included; false: s is something else.
func ParseOct(s string) (int, bool) {
	if s == "" || len(s) > mostOctal {
		return 0, false
	}
	n := 0
	for _, r := range s {
		if r < '0' || r > '7' {
			return 0, false
		}
		n = n*8 + int(r-'0')
	}
	return n, true
}
