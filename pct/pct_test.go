package pct_test

import (
	"fmt"
	"net/url"
	"strings"
	"testing"

	"ragpicker/api"
	"ragpicker/pct"
)

// plain are the unreserved bytes, written out one by one.
const plain = "ABCDEFGHIJKLMNOPQRSTUVWXYZabcdefghijklmnopqrstuvwxyz0123456789-._~/"

// short are all strings of at most most bytes out of those that are given.
func short(most int, bytes string) []string {
	l := []string{""}
	for from := 0; most > 0; most-- {
		to := len(l)
		for _, s := range l[from:to] {
			for i := range len(bytes) {
				l = append(l, s+bytes[i:i+1])
			}
		}
		from = to
	}
	return l
}

// bytes are the 256 bytes, each as a string, and one string of them all.
func bytes() ([]string, string) {
	var l []string
	for b := range 256 {
		l = append(l, string([]byte{byte(b)}))
	}
	return l, strings.Join(l, "")
}

// long are strings far beyond the limits of names and paths, which bind no function of pct.
func long() []string {
	n := 1 << 18
	var l []string
	for _, s := range []string{"a", "/", "%", " ", "\x00", "\xff", "a ", "%25", "%2f", "%zz", "é"} {
		l = append(l, strings.Repeat(s, n), strings.Repeat(s, n)+"%", strings.Repeat(s, n)+"%4", strings.Repeat(s, n)+"%41")
	}
	return l
}

// wantEncode is Encode told from the list of the unreserved bytes.
func wantEncode(s string) string {
	var b strings.Builder
	for i := range len(s) {
		if strings.IndexByte(plain, s[i]) >= 0 {
			b.WriteByte(s[i])
		} else {
			fmt.Fprintf(&b, "%%%02X", s[i])
		}
	}
	return b.String()
}

// wantDecode is Decode told by net/url, which has the same rules for a path.
func wantDecode(s string) (string, api.Errno) {
	got, err := url.PathUnescape(s)
	if err != nil {
		return "", api.ErrForm
	}
	return got, api.OK
}

// encoded holds the answers of Encode and Len for s against what P4.1 says of them.
func encoded(t *testing.T, s string) {
	t.Helper()
	got, want := pct.Encode(s), wantEncode(s)
	if got != want {
		t.Errorf("Encode(%.20q), %d bytes, = %.40q, want %.40q", s, len(s), got, want)
	}
	if n := pct.Len(s); n != len(want) {
		t.Errorf("Len(%.20q), %d bytes, = %d, want %d", s, len(s), n, len(want))
	}
}

// decoded holds the answer of Decode for s against what P4.2 says of it.
func decoded(t *testing.T, s string) {
	t.Helper()
	got, e := pct.Decode(s)
	if want, why := wantDecode(s); got != want || e != why {
		t.Errorf("Decode(%.20q), %d bytes, = %.40q, %d, want %.40q, %d", s, len(s), got, e, want, why)
	}
}

// follows holds Decode of Encode of s against s.
func follows(t *testing.T, s string) {
	t.Helper()
	if got, e := pct.Decode(pct.Encode(s)); got != s || e != api.OK {
		t.Errorf("Decode(Encode(%.20q)), %d bytes, = %.20q, %d", s, len(s), got, e)
	}
}

// P4.1: Encode, and Len of the same text.
func TestEncode(t *testing.T) {
	for _, c := range []struct{ s, want string }{
		{"", ""}, {"a b%", "a%20b%25"}, {"a b%/", "a%20b%25/"}, {"/a/b.txt", "/a/b.txt"}, {"/hut/my file~", "/hut/my%20file~"},
		{"AZaz09", "AZaz09"}, {"-._~/", "-._~/"}, {plain, plain},
		// The bytes beside the unreserved ones, those of each range's two ends among them.
		{"@[", "%40%5B"}, {"`{", "%60%7B"}, {":", "%3A"}, {",", "%2C"}, {"^", "%5E"}, {"}", "%7D"}, {"\x7f", "%7F"}, {"\\", "%5C"},
		// RFC 3986's other ones are reserved here, too.
		{"!*'();@&=+$,?#[]", "%21%2A%27%28%29%3B%40%26%3D%2B%24%2C%3F%23%5B%5D"},
		{"%", "%25"}, {"%%", "%25%25"}, {"%25", "%2525"}, {"%4", "%254"}, {"%41", "%2541"},
		{"\x00", "%00"}, {"\x01", "%01"}, {"\t", "%09"}, {"\n", "%0A"}, {"\r", "%0D"}, {"\x0f", "%0F"}, {"\x10", "%10"}, {"\x1f", "%1F"}, {" ", "%20"},
		{"\x80", "%80"}, {"\x9a", "%9A"}, {"\xab", "%AB"}, {"\xcd", "%CD"}, {"\xef", "%EF"}, {"\xf0", "%F0"}, {"\xfe", "%FE"}, {"\xff", "%FF"},
		{"é", "%C3%A9"}, {"a\xc3", "a%C3"}, {"\xa9b", "%A9b"}, {"\ufffd", "%EF%BF%BD"}, {"／", "%EF%BC%8F"}, {"\xed\xa0\x80", "%ED%A0%80"},
		{"a\x00b", "a%00b"}, {" a ", "%20a%20"}, {"  ", "%20%20"},
	} {
		if got := pct.Encode(c.s); got != c.want {
			t.Errorf("Encode(%q) = %q, want %q", c.s, got, c.want)
		}
		if got := pct.Len(c.s); got != len(c.want) {
			t.Errorf("Len(%q) = %d, want %d", c.s, got, len(c.want))
		}
	}
}

// P4.1: each byte alone, each two of them, and all at once.
func TestEncodeBytes(t *testing.T) {
	alone, all := bytes()
	copied := 0
	for _, a := range alone {
		encoded(t, a)
		if pct.Encode(a) == a {
			copied++
		}
		for _, b := range alone {
			encoded(t, a+b)
		}
	}
	if copied != 26+26+10+5 {
		t.Errorf("%d bytes are copied", copied)
	}
	encoded(t, all)
	for _, s := range long() {
		encoded(t, s)
	}
}

// P4.2: what Decode takes.
func TestDecode(t *testing.T) {
	for _, c := range []struct{ s, want string }{
		{"", ""}, {"a", "a"}, {"/a/b", "/a/b"}, {plain, plain},
		{"%4a", "J"}, {"%4A", "J"}, {"%4a%4A", "JJ"}, {"a%20b%25", "a b%"}, {"%20", " "}, {"%2F", "/"}, {"%2f", "/"}, {"%2e%2E", ".."},
		{"%00", "\x00"}, {"%01", "\x01"}, {"%0f", "\x0f"}, {"%0F", "\x0f"}, {"%10", "\x10"}, {"%7f", "\x7f"}, {"%80", "\x80"}, {"%99", "\x99"}, {"%ff", "\xff"}, {"%FF", "\xff"},
		{"%aF", "\xaf"}, {"%Fa", "\xfa"}, {"%fA", "\xfa"}, {"%Bc", "\xbc"}, {"%dE", "\xde"}, {"%9f", "\x9f"}, {"%f9", "\xf9"}, {"%a0", "\xa0"}, {"%0a", "\n"},
		{"%41", "A"}, {"%7E", "~"}, {"%C3%A9", "é"}, {"%c3\xa9", "é"}, {"\xc3%a9", "é"}, {"%61%62%63", "abc"},
		// What a sign denotes is not read again.
		{"%25", "%"}, {"%2525", "%25"}, {"%25%25", "%%"}, {"%2541", "%41"}, {"%254", "%4"}, {"%25zz", "%zz"},
		// Digits behind two digits, and without a sign.
		{"%410", "A0"}, {"%4141", "A41"}, {"41", "41"}, {"4a%4a4a", "4aJ4a"}, {"%000", "\x000"},
		// Bytes that Encode would not let stand are copied.
		{" ", " "}, {"+", "+"}, {"a b", "a b"}, {"a+b", "a+b"}, {"!*'();:@&=+$,?#[]", "!*'();:@&=+$,?#[]"}, {"\x00", "\x00"}, {"\n\r\t", "\n\r\t"}, {"\xff\xfe", "\xff\xfe"}, {"é", "é"}, {"\"<>\\^`{|}\x7f", "\"<>\\^`{|}\x7f"}, {" %20 ", "   "}, {"\x00%00", "\x00\x00"},
	} {
		if got, e := pct.Decode(c.s); got != c.want || e != api.OK {
			t.Errorf("Decode(%q) = %q, %d, want %q, 0", c.s, got, e, c.want)
		}
	}
}

// P4.2: what Decode does not take; beside the error there is no text.
func TestDecodeWrong(t *testing.T) {
	for _, s := range []string{
		"%", "a%", "/a/b%", "%41%", "%25%", " %", "\x00%", "\xff%",
		"%4", "%a", "%F", "%0", "a%4", "%41%4", "%25%2",
		"%g0", "%G0", "%z1", "%Z1", "% 1", "%-1", "%+1", "%x1", "%/0", "%.0", "%\x000", "%\xff0", "%é", "%１1",
		"%0g", "%0G", "%1z", "%1Z", "%1 ", "%1-", "%1x", "%0/", "%0.", "%0\x00", "%0\xff", "%0é", "%1１",
		"%gg", "%zz", "%  ", "%//", "%\n\n", "%0x", "%0x41", "%u0041", "%#41",
		"%/1", "%:1", "%@1", "%G1", "%`1", "%g1", "%1/", "%1:", "%1@", "%1G", "%1`", "%1g",
		"%%", "%%%", "%%41", "%%25", "%4%", "%4%1", "%4%41", "%2%35", "a%%b", "%%4", "%41%%",
		"%41%42%4", "%41%42%4g", "%41%42%g4", "a%20b%2", "%20%20%", "%2g%20", "%zz%41", "abc%def%gh", "%1g%",
	} {
		if got, e := pct.Decode(s); got != "" || e != api.ErrForm {
			t.Errorf("Decode(%q) = %q, %d, want \"\", %d", s, got, e, api.ErrForm)
		}
	}
}

// P4.2: each byte alone, and behind a sign each two of all bytes, and each one.
func TestDecodeBytes(t *testing.T) {
	alone, all := bytes()
	taken := 0
	for _, a := range alone {
		decoded(t, a)
		decoded(t, "%"+a)
		for _, b := range alone {
			decoded(t, a+b)
			decoded(t, "%"+a+b)
			decoded(t, "x%"+a+b+"4")
			if _, e := pct.Decode("%" + a + b); e == api.OK {
				taken++
			}
		}
	}
	if taken != 22*22 {
		t.Errorf("%d pairs of bytes are taken for digits", taken)
	}
	decoded(t, all)
	decoded(t, strings.ReplaceAll(all, "%", ""))
}

// P4.2: all short strings of signs, digits, and others; and long ones.
func TestDecodeAll(t *testing.T) {
	for _, s := range short(7, "%4aFg") {
		decoded(t, s)
	}
	for _, s := range long() {
		decoded(t, s)
	}
}

// P4.2: both ways to write a digit denote the same, in either place.
func TestDecodeCases(t *testing.T) {
	const lower, upper = "0123456789abcdef", "0123456789ABCDEF"
	for b := range 256 {
		for _, high := range []string{lower, upper} {
			for _, low := range []string{lower, upper} {
				s := string([]byte{'%', high[b/16], low[b%16]})
				if got, e := pct.Decode(s); got != string([]byte{byte(b)}) || e != api.OK {
					t.Errorf("Decode(%q) = %q, %d", s, got, e)
				}
			}
		}
	}
}

// P4.3: Decode takes back what Encode tells.
func TestFollows(t *testing.T) {
	alone, all := bytes()
	for _, a := range alone {
		for _, b := range alone {
			follows(t, a+b)
		}
		follows(t, a)
	}
	for _, s := range short(6, "%2f \x00") {
		follows(t, s)
	}
	for _, s := range append(long(), "", all) {
		follows(t, s)
	}
}

func FuzzPct(f *testing.F) {
	for _, s := range []string{"", "a b%", "%4a", "%4", "%", "%%25", "%zz", "\x00\xff%C3%a9", plain} {
		f.Add(s)
	}
	f.Fuzz(func(t *testing.T, s string) {
		encoded(t, s)
		decoded(t, s)
		follows(t, s)
	})
}
