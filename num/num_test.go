package num_test

import (
	"math"
	"math/big"
	"strconv"
	"strings"
	"testing"

	"ragpicker/num"
)

// edges are numbers around every power of 2, 8 and 10, of both signs, and both ends of int.
func edges() []int {
	l := []int{0, math.MaxInt, math.MaxInt - 1, math.MinInt, math.MinInt + 1}
	for _, base := range []int{2, 8, 10} {
		for p := 1; ; p *= base {
			for d := -2; d <= 2; d++ {
				l = append(l, p+d, -p-d)
			}
			if p > (math.MaxInt-2)/base {
				break
			}
		}
	}
	for n := -1100; n <= 1100; n++ {
		l = append(l, n)
	}
	return l
}

// P1.1: Dec.
func TestDec(t *testing.T) {
	for _, c := range []struct {
		n    int
		want string
	}{
		{0, "0"}, {1, "1"}, {9, "9"}, {10, "10"}, {100, "100"}, {1234567890, "1234567890"},
		{-1, "-1"}, {-7, "-7"}, {-10, "-10"}, {-1000, "-1000"},
		{math.MaxInt64, "9223372036854775807"},
		{math.MinInt64, "-9223372036854775808"},
		{math.MinInt64 + 1, "-9223372036854775807"},
	} {
		if got := num.Dec(c.n); got != c.want {
			t.Errorf("Dec(%d) = %q, want %q", c.n, got, c.want)
		}
	}
	for _, n := range edges() {
		if got, want := num.Dec(n), big.NewInt(int64(n)).Text(10); got != want {
			t.Errorf("Dec(%d) = %q, want %q", n, got, want)
		}
	}
}

// P1.1: Oct.
func TestOct(t *testing.T) {
	for _, c := range []struct {
		n    int
		want string
	}{
		{0, "0"}, {1, "1"}, {7, "7"}, {8, "10"}, {9, "11"}, {63, "77"}, {64, "100"}, {511, "777"}, {1023, "1777"},
		{math.MaxInt64, "777777777777777777777"},
		{-1, ""}, {-8, ""}, {math.MinInt64, ""},
	} {
		if got := num.Oct(c.n); got != c.want {
			t.Errorf("Oct(%d) = %q, want %q", c.n, got, c.want)
		}
	}
	for _, n := range edges() {
		want := ""
		if n >= 0 {
			want = big.NewInt(int64(n)).Text(8)
		}
		if got := num.Oct(n); got != want {
			t.Errorf("Oct(%d) = %q, want %q", n, got, want)
		}
	}
}

// P1.1: Pad.
func TestPad(t *testing.T) {
	for _, c := range []struct {
		n, wide int
		want    string
	}{
		{7, 3, "007"}, {0, 2, "00"}, {0, 1, "0"}, {0, 0, "0"}, {0, -1, "0"},
		{1970, 4, "1970"}, {1970, 3, "1970"}, {1970, 5, "01970"},
		{7, 0, "7"}, {7, -5, "7"}, {7, math.MinInt64, "7"},
		{7, 19, "0000000000000000007"},
		{7, 20, "00000000000000000007"},
		{7, 21, ""}, {7, math.MaxInt64, ""},
		{math.MaxInt64, 20, "09223372036854775807"},
		{math.MaxInt64, 19, "9223372036854775807"},
		{math.MaxInt64, 1, "9223372036854775807"},
		{math.MaxInt64, 21, ""},
		{-1, 3, ""}, {-1, 0, ""}, {-1, -1, ""}, {-7, 20, ""}, {-7, 21, ""}, {math.MinInt64, 20, ""},
	} {
		if got := num.Pad(c.n, c.wide); got != c.want {
			t.Errorf("Pad(%d, %d) = %q, want %q", c.n, c.wide, got, c.want)
		}
	}
	for _, n := range edges() {
		for wide := -2; wide <= 22; wide++ {
			want := ""
			if n >= 0 && wide <= 20 {
				want = strconv.Itoa(n)
				for len(want) < wide {
					want = "0" + want
				}
			}
			if got := num.Pad(n, wide); got != want {
				t.Errorf("Pad(%d, %d) = %q, want %q", n, wide, got, want)
			}
		}
	}
}

// P1.2: what Parse takes.
func TestParse(t *testing.T) {
	for _, c := range []struct {
		s    string
		want int
	}{
		{"0", 0}, {"1", 1}, {"9", 9}, {"10", 10}, {"1000", 1000}, {"-1", -1}, {"-10", -10}, {"-905", -905},
		{"9223372036854775806", math.MaxInt64 - 1},
		{"9223372036854775807", math.MaxInt64},
		{"-9223372036854775807", math.MinInt64 + 1},
		{"-9223372036854775808", math.MinInt64},
	} {
		if got, ok := num.Parse(c.s); got != c.want || !ok {
			t.Errorf("Parse(%q) = %d, %t, want %d, true", c.s, got, ok, c.want)
		}
	}
}

// P1.2: what Parse does not take.
func TestParseWrong(t *testing.T) {
	for _, s := range []string{
		"", "-", "--1", "+", "+1", "+0", "-0", "-00", "-01", "00", "01", "07", "007", "0x1", "0b1", "0o7", "1_000",
		" 1", "1 ", "1\n", "\t1", "1.0", "1e3", "1-", "1-1", "a", "12a", "a12", "0-", "1\x00", "\x00",
		"/", ":", "1/", "1:", "/1", ":1", "\xff", "1\xff", "\xb1", "1\xb2", "１", "٣", "²", "−1",
		"9223372036854775808", "-9223372036854775809", "9223372036854775810", "9223372036854775899",
		"18446744073709551615", "18446744073709551616", "18446744073709551617", "-18446744073709551616",
		"92233720368547758070", "-92233720368547758080", "10000000000000000000", "99999999999999999999",
		"340282366920938463463374607431768211457",
		strings.Repeat("9", 1000), "-" + strings.Repeat("9", 1000), strings.Repeat("0", 1000), "1" + strings.Repeat("0", 64),
	} {
		if got, ok := num.Parse(s); got != 0 || ok {
			t.Errorf("Parse(%q) = %d, %t, want 0, false", s, got, ok)
		}
	}
}

// P1.2: ParseOct on ordinary strings, and at the edges of its length.
func TestParseOct(t *testing.T) {
	for _, c := range []struct {
		s    string
		want int
	}{
		{"0", 0}, {"7", 7}, {"10", 8}, {"17", 15}, {"017", 15}, {"00", 0}, {"644", 420}, {"0755", 493}, {"1777", 1023},
		{"0000000", 0}, {"0000001", 1}, {"1000000", 262144}, {"7654321", 2054353}, {"7777777", 2097151},
	} {
		if got, ok := num.ParseOct(c.s); got != c.want || !ok {
			t.Errorf("ParseOct(%q) = %d, %t, want %d, true", c.s, got, ok, c.want)
		}
	}
}

// P1.2: what ParseOct does not take.
func TestParseOctWrong(t *testing.T) {
	for _, s := range []string{
		"", "8", "9", "18", "81", "-", "-1", "-0", "+1", "0o7", "0x7", "a", "7a", "a7", " 7", "7 ", "7\n", "1_0", "1.0",
		"/", "\x00", "7\x00", "\xff", "7\xff", "７", "7７", "٣",
		"00000000", "00000001", "10000000", "77777777", "000000000", strings.Repeat("7", 1000), strings.Repeat("0", 1000),
	} {
		if got, ok := num.ParseOct(s); got != 0 || ok {
			t.Errorf("ParseOct(%q) = %d, %t, want 0, false", s, got, ok)
		}
	}
}

// P1.2: ParseOct takes what Oct writes, up to seven digits, and with leading zeros up to seven.
func TestParseOctOfOct(t *testing.T) {
	for _, n := range edges() {
		s := num.Oct(n)
		if n < 0 {
			continue
		}
		for ; len(s) <= 9; s = "0" + s {
			got, ok := num.ParseOct(s)
			if len(s) <= 7 && (got != n || !ok) {
				t.Errorf("ParseOct(%q) = %d, %t, want %d, true", s, got, ok, n)
			}
			if len(s) > 7 && (got != 0 || ok) {
				t.Errorf("ParseOct(%q) = %d, %t, want 0, false", s, got, ok)
			}
		}
	}
}

// P1.3: Parse takes back what Dec writes.
func TestParseOfDec(t *testing.T) {
	for _, n := range edges() {
		if got, ok := num.Parse(num.Dec(n)); got != n || !ok {
			t.Errorf("Parse(Dec(%d)) = %d, %t, want %d, true", n, got, ok, n)
		}
	}
}

// P1.2, P1.3: of all short strings, Parse takes exactly those that Dec writes.
func TestDecOfParse(t *testing.T) {
	var check func(s string)
	check = func(s string) {
		n, err := strconv.Atoi(s)
		want := err == nil && strconv.Itoa(n) == s
		got, ok := num.Parse(s)
		if ok != want || ok && (got != n || num.Dec(got) != s) || !ok && got != 0 {
			t.Errorf("Parse(%q) = %d, %t, want %t", s, got, ok, want)
		}
		if len(s) == 4 {
			return
		}
		for _, b := range []byte("-+0123789/: x\x00\xff") {
			check(s + string([]byte{b}))
		}
	}
	check("")
}

// P1.2, P1.3: the same around the ends of int, where the strings are longest.
func TestDecOfParseAtEnds(t *testing.T) {
	for _, end := range []int64{math.MaxInt64, math.MinInt64} {
		for d := int64(-300); d <= 300; d++ {
			n := new(big.Int).Add(big.NewInt(end), big.NewInt(d))
			got, ok := num.Parse(n.String())
			if ok != n.IsInt64() || ok && num.Dec(got) != n.String() || !ok && got != 0 {
				t.Errorf("Parse(%q) = %d, %t", n.String(), got, ok)
			}
		}
	}
}

func FuzzParse(f *testing.F) {
	for _, s := range []string{"0", "-0", "07", "-9223372036854775808", "9223372036854775808", "+1", ""} {
		f.Add(s)
	}
	f.Fuzz(func(t *testing.T, s string) {
		n, err := strconv.Atoi(s)
		want := err == nil && strconv.Itoa(n) == s
		if got, ok := num.Parse(s); ok != want || ok && got != n || !ok && got != 0 {
			t.Errorf("Parse(%q) = %d, %t", s, got, ok)
		}
		n64, err := strconv.ParseUint(s, 8, 64)
		want = err == nil && len(s) <= 7
		if got, ok := num.ParseOct(s); ok != want || ok && got != int(n64) || !ok && got != 0 {
			t.Errorf("ParseOct(%q) = %d, %t", s, got, ok)
		}
	})
}
