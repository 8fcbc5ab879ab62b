package tilde_test

import (
	"fmt"
	"math"
	"regexp"
	"slices"
	"strconv"
	"strings"
	"testing"

	"ragpicker/api"
	"ragpicker/tilde"
)

// form is what follows the name: the numbers from 1 to 999999999 are those of one to nine digits, the first of which is not 0.
var form = regexp.MustCompile(`\A\.~([1-9][0-9]{0,8})~\z`)

// wantCheck tells what chapter 2 says of a name.
func wantCheck(s string) api.Errno {
	switch {
	case s == "" || s == "." || s == ".." || strings.IndexByte(s, '/') >= 0 || strings.IndexByte(s, 0) >= 0:
		return api.ErrArg
	case len(s) >= 256:
		return api.ErrName
	}
	return api.OK
}

// wantName is Name told by package fmt.
func wantName(base string, n int) (string, api.Errno) {
	if e := wantCheck(base); e != api.OK {
		return "", e
	}
	if n <= 0 || n >= 1000000000 {
		return "", api.ErrRange
	}
	if s := fmt.Sprintf("%s.~%d~", base, n); len(s) <= 255 {
		return s, api.OK
	}
	return "", api.ErrName
}

// wantIndex is Index told by a regular expression and package strconv.
func wantIndex(base, s string) int {
	if base == "" || len(s) < len(base) || s[:len(base)] != base {
		return 0
	}
	m := form.FindStringSubmatch(s[len(base):])
	if m == nil {
		return 0
	}
	n, err := strconv.Atoi(m[1])
	if err != nil {
		panic(err)
	}
	return n
}

// wantMost is Most told by sorting.
func wantMost(base string, l []string) int {
	found := []int{0}
	for _, s := range l {
		found = append(found, wantIndex(base, s))
	}
	slices.Sort(found)
	return found[len(found)-1]
}

// named holds the answer of Name against what P8.1 says of it.
func named(t *testing.T, base string, n int) {
	t.Helper()
	want, e := wantName(base, n)
	if got, why := tilde.Name(base, n); got != want || why != e {
		t.Errorf("Name(%.60q, %d), of %d bytes, = %.300q, %d, want %.300q, %d", base, n, len(base), got, why, want, e)
	}
}

// indexed holds the answer of Index against what P8.1 says of it.
func indexed(t *testing.T, base, s string) {
	t.Helper()
	if got, want := tilde.Index(base, s), wantIndex(base, s); got != want {
		t.Errorf("Index(%.60q, %.300q), of %d and %d bytes, = %d, want %d", base, s, len(base), len(s), got, want)
	}
}

// follows holds the answers of Most and Next against what P8.1 and P8.2 say of them, and the list against what it was.
func follows(t *testing.T, base string, l []string) {
	t.Helper()
	kept := slices.Clone(l)
	most := wantMost(base, l)
	if got := tilde.Most(base, l...); got != most {
		t.Errorf("Most(%.60q, %.300q) = %d, want %d", base, l, got, most)
	}
	want, e := wantName(base, most+1)
	got, why := tilde.Next(base, l...)
	if got != want || why != e {
		t.Errorf("Next(%.60q, %.300q) = %.300q, %d, want %.300q, %d", base, l, got, why, want, e)
	}
	if why == api.OK && slices.Contains(l, got) {
		t.Errorf("Next(%.60q, %.300q) = %.300q, which is there", base, l, got)
	}
	if !slices.Equal(l, kept) {
		t.Errorf("Most and Next of %.60q, %.300q leave %.300q", base, kept, l)
	}
}

// lists are all lists of at most most of what is given, with each of them as often as it will.
func lists(most int, of []string) [][]string {
	all := [][]string{nil}
	for from := 0; most > 0; most-- {
		to := len(all)
		for _, l := range all[from:to] {
			for _, x := range of {
				all = append(all, append(slices.Clone(l), x))
			}
		}
		from = to
	}
	return all
}

// names are ones that may be, and wrong are texts that are none.
func names() []string {
	l := []string{
		"abc", "a b", "a.", ".a", "a.~", "a~", ".~", "~", "~1~", ".~1~", "a.~1~", "a.~1~.~1~", "...", "..a", "1", "-1", "%41", "a\nb", "é", "\xff\xfe", "日本", "my file.tar.gz",
		strings.Repeat("é", 125), strings.Repeat("\xff", 250), strings.Repeat(".~1~", 60),
	}
	for n := 240; n <= 255; n++ {
		l = append(l, strings.Repeat("a", n))
	}
	for b := 1; b < 256; b++ {
		if b != '/' && b != '.' {
			l = append(l, string([]byte{byte(b)}))
		}
	}
	return l
}

func wrong() []string {
	return []string{
		"", ".", "..", "/", "a/", "/a", "a/b", "//", "./", "../a", "\x00", "a\x00", "\x00a", "/\x00",
		strings.Repeat("a", 256), strings.Repeat("é", 128), strings.Repeat("\xff", 256), strings.Repeat("a", 5000), strings.Repeat("a", 255) + "/", strings.Repeat("a", 300) + "\x00",
	}
}

// numbers are those around the limits, and each greatest and least one of so many digits.
func numbers() []int {
	l := []int{math.MinInt, math.MinInt + 1, math.MinInt32, -1000000000, -999999999, -2, -1, 0, 2, 7, 12, 123456789, 999999998, 1000000001, 1 << 31, 1 << 32, 1<<32 + 1, math.MaxInt - 1, math.MaxInt}
	for n := 1; n <= 10000000000; n *= 10 {
		l = append(l, n-1, n, n+1)
	}
	return l
}

// P8.1: what Name answers, and in which order where several faults meet.
func TestName(t *testing.T) {
	a := func(n int) string { return strings.Repeat("a", n) }
	for _, c := range []struct {
		base string
		n    int
		want string
		e    api.Errno
	}{
		{"a", 1, "a.~1~", api.OK}, {"a", 2, "a.~2~", api.OK}, {"a", 10, "a.~10~", api.OK}, {"a", 999999998, "a.~999999998~", api.OK}, {"a", 999999999, "a.~999999999~", api.OK},
		{"a.~1~", 1, "a.~1~.~1~", api.OK}, {"~", 1, "~.~1~", api.OK}, {"...", 3, "....~3~", api.OK}, {"\xff", 1, "\xff.~1~", api.OK}, {"a b\n", 1, "a b\n.~1~", api.OK},
		{"a", 0, "", api.ErrRange}, {"a", -1, "", api.ErrRange}, {"a", 1000000000, "", api.ErrRange}, {"a", math.MaxInt, "", api.ErrRange}, {"a", math.MinInt, "", api.ErrRange},
		{"", 1, "", api.ErrArg}, {".", 1, "", api.ErrArg}, {"..", 1, "", api.ErrArg}, {"a/b", 1, "", api.ErrArg}, {"/", 1, "", api.ErrArg}, {"a\x00", 1, "", api.ErrArg},
		{a(256), 1, "", api.ErrName},
		// The limit is on the backup's bytes: three more than the name, and the digits.
		{a(250), 1, a(250) + ".~1~", api.OK}, {a(251), 1, a(251) + ".~1~", api.OK}, {a(251), 9, a(251) + ".~9~", api.OK}, {a(252), 1, "", api.ErrName}, {a(253), 1, "", api.ErrName}, {a(255), 1, "", api.ErrName},
		{a(250), 10, a(250) + ".~10~", api.OK}, {a(250), 99, a(250) + ".~99~", api.OK}, {a(251), 10, "", api.ErrName}, {a(250), 100, "", api.ErrName},
		{a(243), 999999999, a(243) + ".~999999999~", api.OK}, {a(243), 100000000, a(243) + ".~100000000~", api.OK}, {a(244), 999999999, "", api.ErrName}, {a(244), 100000000, "", api.ErrName}, {a(244), 99999999, a(244) + ".~99999999~", api.OK},
		{strings.Repeat("é", 125), 1, strings.Repeat("é", 125) + ".~1~", api.OK}, {strings.Repeat("é", 125) + "a", 1, strings.Repeat("é", 125) + "a.~1~", api.OK}, {strings.Repeat("é", 126), 1, "", api.ErrName},
		// Several faults.
		{"", 0, "", api.ErrArg}, {"a/b", -1, "", api.ErrArg}, {"..", 1000000000, "", api.ErrArg}, {a(256) + "/", 0, "", api.ErrArg}, {a(252) + "/", 1, "", api.ErrArg},
		{a(256), 0, "", api.ErrName}, {a(256), 1000000000, "", api.ErrName}, {a(5000), -1, "", api.ErrName},
		{a(255), 0, "", api.ErrRange}, {a(252), 0, "", api.ErrRange}, {a(255), -1, "", api.ErrRange}, {a(243), 1000000000, "", api.ErrRange}, {a(255), math.MaxInt, "", api.ErrRange},
	} {
		if got, e := tilde.Name(c.base, c.n); got != c.want || e != c.e {
			t.Errorf("Name(%.20q, %d), of %d bytes, = %.300q, %d, want %.300q, %d", c.base, c.n, len(c.base), got, e, c.want, c.e)
		}
		named(t, c.base, c.n)
	}
}

// P8.1: Name of each name and of each text that is none, with numbers of all kinds; Index reads back what Name has written.
func TestNameAll(t *testing.T) {
	for _, base := range append(names(), wrong()...) {
		for _, n := range numbers() {
			named(t, base, n)
			s, e := tilde.Name(base, n)
			if e != api.OK {
				continue
			}
			if got := tilde.Index(base, s); got != n {
				t.Errorf("Index(%.60q, %.300q) = %d, want %d", base, s, got, n)
			}
		}
	}
	for n := range 20000 {
		named(t, "a", n)
		indexed(t, "a", "a.~"+strconv.Itoa(n)+"~")
	}
}

// P8.1: what Index answers.
func TestIndex(t *testing.T) {
	long := strings.Repeat("a", 300)
	for _, c := range []struct {
		base, s string
		want    int
	}{
		{"a", "a.~1~", 1}, {"a", "a.~2~", 2}, {"a", "a.~12~", 12}, {"a", "a.~100~", 100}, {"a", "a.~999999998~", 999999998}, {"a", "a.~999999999~", 999999999},
		// Numbers that are none of a backup.
		{"a", "a.~0~", 0}, {"a", "a.~00~", 0}, {"a", "a.~02~", 0}, {"a", "a.~012~", 0}, {"a", "a.~-1~", 0}, {"a", "a.~-0~", 0}, {"a", "a.~+1~", 0}, {"a", "a.~-~", 0}, {"a", "a.~~", 0}, {"a", "a.~x~", 0}, {"a", "a.~1x~", 0}, {"a", "a.~x1~", 0},
		{"a", "a.~1000000000~", 0}, {"a", "a.~0999999999~", 0}, {"a", "a.~9999999999~", 0}, {"a", "a.~4294967297~", 0}, {"a", "a.~9223372036854775807~", 0}, {"a", "a.~9223372036854775808~", 0}, {"a", "a.~18446744073709551617~", 0}, {"a", "a.~-9223372036854775808~", 0}, {"a", "a.~" + strings.Repeat("1", 1000) + "~", 0},
		{"a", "a.~ 1~", 0}, {"a", "a.~1 ~", 0}, {"a", "a.~1.0~", 0}, {"a", "a.~1e1~", 0}, {"a", "a.~0x1~", 0}, {"a", "a.~1_0~", 0}, {"a", "a.~٣~", 0}, {"a", "a.~１~", 0}, {"a", "a.~1\x00~", 0}, {"a", "a.~1\n~", 0}, {"a", "a.~\xff~", 0},
		// What is around the number.
		{"a", "", 0}, {"a", "a", 0}, {"a", "a.", 0}, {"a", "a.~", 0}, {"a", "a~", 0}, {"a", "a~~", 0}, {"a", "a1", 0}, {"a", "a1~", 0}, {"a", "a.1~", 0}, {"a", "a.~1", 0}, {"a", "a~1~", 0}, {"a", "a.1", 0}, {"a", ".~1~", 0}, {"a", "1", 0}, {"a", "~1~", 0},
		{"a", "a..~1~", 0}, {"a", "a.~~1~", 0}, {"a", "a.~1~~", 0}, {"a", "a.~1~ ", 0}, {"a", " a.~1~", 0}, {"a", "a.~1~\n", 0}, {"a", "a.~1~a", 0}, {"a", "a .~1~", 0}, {"a", "a,~1~", 0}, {"a", "a.-1-", 0}, {"a", "a.~1.~", 0}, {"a", "a.~1~\x00", 0},
		// Other names.
		{"a", "b.~1~", 0}, {"a", "A.~1~", 0}, {"A", "a.~1~", 0}, {"a", "aa.~1~", 0}, {"aa", "a.~1~", 0}, {"ab", "abc.~1~", 0}, {"abc", "ab.~1~", 0}, {"a", "ba.~1~", 0}, {"a", "a/.~1~", 0}, {"a", "/a.~1~", 0},
		// Names that look like backups themselves.
		{"a.~1~", "a.~1~", 0}, {"a.~1~", "a.~1~.~2~", 2}, {"a", "a.~1~.~2~", 0}, {"a.~", "a.~1~", 0}, {"a.~", "a.~.~1~", 1}, {"a.", "a.~1~", 0}, {"a.", "a..~1~", 1}, {"a.~1", "a.~1~", 0}, {"a.~1", "a.~12~", 0}, {"a.~1", "a.~1.~2~", 2}, {".~1~", ".~1~.~1~", 1}, {".~1~", ".~1~", 0}, {"~", "~.~1~", 1}, {"~", "~1~", 0},
		// Any base that is not empty, whether or not it is a name.
		{".", "..~1~", 1}, {"..", "...~1~", 1}, {"..", "..~1~", 0}, {"/", "/.~3~", 3}, {"a/b", "a/b.~4~", 4}, {"a/", "a/.~1~", 1}, {"\x00", "\x00.~5~", 5}, {"a\x00", "a\x00.~1~", 1}, {"\xff", "\xff.~6~", 6}, {"\xff", "\xfe.~6~", 0}, {"\xff", "\ufffd.~6~", 0}, {"é", "é.~7~", 7}, {" ", " .~1~", 1}, {"%", "%.~1~", 1}, {"[", "[.~1~", 1}, {"*", "a.~1~", 0}, {"a", "a.~*~", 0},
		// No limit of bytes.
		{long, long + ".~8~", 8}, {long, long + ".~08~", 0}, {long, long, 0}, {long[:250], long[:250] + ".~10~", 10}, {long[:255], long[:255] + ".~999999999~", 999999999},
		// The empty one.
		{"", "", 0}, {"", ".~1~", 0}, {"", "a.~1~", 0}, {"", "1", 0}, {"", ".~999999999~", 0},
	} {
		if got := tilde.Index(c.base, c.s); got != c.want {
			t.Errorf("Index(%.20q, %.60q) = %d, want %d", c.base, c.s, got, c.want)
		}
		indexed(t, c.base, c.s)
	}
}

// P8.1: Index of all short texts out of what matters in a backup's name.
func TestIndexPieces(t *testing.T) {
	pieces := []string{"a", ".", "~", "0", "1", "9", "-", "/", "\x00", "\xff", ".~"}
	bases := []string{"", "a", ".", "~", "1", "a.", "a.~", "a.~1", "a.~1~", ".~", "aa", "/", "\xff", "\x00"}
	for _, l := range lists(5, pieces) {
		s := strings.Join(l, "")
		for _, base := range bases {
			indexed(t, base, s)
		}
	}
	for _, l := range lists(4, pieces) {
		s := strings.Join(l, "")
		for _, base := range bases {
			indexed(t, base, base+s)
			indexed(t, base, base+".~"+s)
			indexed(t, base, base+s+"~")
			indexed(t, base, base+".~"+s+"~")
			indexed(t, s, s+".~12~")
			indexed(t, s, base+".~12~")
		}
	}
}

// P8.1: Index of texts from which a byte is left out, in which it is doubled, or replaced by another one.
func TestIndexBytes(t *testing.T) {
	for _, base := range []string{"a", "ab", "a.~1~", "é", "\xff", ".", "~"} {
		for _, digits := range []string{"1", "10", "305", "999999999", "123456789", "1000000000"} {
			s := base + ".~" + digits + "~"
			indexed(t, base, s)
			for i := range len(s) {
				indexed(t, base, s[:i])
				indexed(t, base, s[i:])
				indexed(t, base, s[:i]+s[i+1:])
				indexed(t, base, s[:i+1]+s[i:])
				for b := range 256 {
					c := string([]byte{byte(b)})
					indexed(t, base, s[:i]+c+s[i+1:])
					indexed(t, base, s[:i]+c+s[i:])
					indexed(t, base, s+c)
				}
			}
		}
	}
}

// P8.1, R1: long texts.
func TestLong(t *testing.T) {
	const n = 1 << 18
	for _, s := range []string{"a", ".", "~", ".~", "0", "1", "9", "-", ".~1~", "\x00", "\xff", "/", "é"} {
		long := strings.Repeat(s, n)
		for _, base := range []string{"", "a", long, long + "a"} {
			named(t, base, 1)
			named(t, base, 0)
			for _, x := range []string{long, long + ".~1~", "a.~" + long + "~", "a" + long + "1~", "a.~1" + long, base + ".~2~", base + ".~0~"} {
				indexed(t, base, x)
				follows(t, base, []string{x, "a.~3~", x})
			}
		}
	}
}

// P8.1, P8.2: what Most and Next answer.
func TestMostNext(t *testing.T) {
	long := strings.Repeat("a", 250)
	for _, c := range []struct {
		base string
		l    []string
		most int
		next string
		e    api.Errno
	}{
		{"a", nil, 0, "a.~1~", api.OK},
		{"a", []string{}, 0, "a.~1~", api.OK},
		{"a", []string{""}, 0, "a.~1~", api.OK},
		{"a", []string{"a"}, 0, "a.~1~", api.OK},
		{"a", []string{"a", "a.~2~", "a.~x~"}, 2, "a.~3~", api.OK},
		{"a", []string{"a.~1~", "a.~4~", "a"}, 4, "a.~5~", api.OK},
		{"a", []string{"a.~4~", "a.~1~"}, 4, "a.~5~", api.OK},
		{"a", []string{"a.~1~", "a.~9~", "a.~3~"}, 9, "a.~10~", api.OK},
		// By number, not by the order of the texts.
		{"a", []string{"a.~9~", "a.~10~"}, 10, "a.~11~", api.OK},
		{"a", []string{"a.~10~", "a.~9~"}, 10, "a.~11~", api.OK},
		{"a", []string{"a.~99~", "a.~100~", "a.~99~"}, 100, "a.~101~", api.OK},
		{"a", []string{"a.~7~", "a.~7~"}, 7, "a.~8~", api.OK},
		// What doesn't count.
		{"a", []string{"b.~9~", "a.~09~", "a.~1000000000~", "aa.~5~", "a.~-3~", "a.~2~.~8~", "A.~4~"}, 0, "a.~1~", api.OK},
		{"a.~2~", []string{"a", "a.~2~", "a.~3~", "a.~2~.~6~"}, 6, "a.~2~.~7~", api.OK},
		// The last number.
		{"a", []string{"a.~999999998~"}, 999999998, "a.~999999999~", api.OK},
		{"a", []string{"a.~999999999~"}, 999999999, "", api.ErrRange},
		{"a", []string{"a.~1~", "a.~999999999~", "a.~2~"}, 999999999, "", api.ErrRange},
		{"a", []string{"a.~999999998~", "a.~1000000000~"}, 999999998, "a.~999999999~", api.OK},
		// Bases that are no names, and backups that are too long.
		{"", nil, 0, "", api.ErrArg},
		{"", []string{".~1~"}, 0, "", api.ErrArg},
		{".", []string{"..~3~"}, 3, "", api.ErrArg},
		{"..", nil, 0, "", api.ErrArg},
		{"a/b", []string{"a/b.~3~", "a/b.~2~"}, 3, "", api.ErrArg},
		{"a/b", []string{"a/b.~999999999~"}, 999999999, "", api.ErrArg},
		{"a\x00", []string{"a\x00.~1~"}, 1, "", api.ErrArg},
		{long + "aaaaaa", []string{long + "aaaaaa.~6~"}, 6, "", api.ErrName},
		{long + "aaaaaa", []string{long + "aaaaaa.~999999999~"}, 999999999, "", api.ErrName},
		{long + "aaaaa", []string{long + "aaaaa.~999999999~"}, 999999999, "", api.ErrRange},
		{long + "a", []string{long + "a.~8~"}, 8, long + "a.~9~", api.OK},
		{long + "a", []string{long + "a.~9~"}, 9, "", api.ErrName},
		{long, []string{long + ".~9~"}, 9, long + ".~10~", api.OK},
		{long, []string{long + ".~98~"}, 98, long + ".~99~", api.OK},
		{long, []string{long + ".~99~"}, 99, "", api.ErrName},
		{long + "aa", nil, 0, "", api.ErrName},
	} {
		if got := tilde.Most(c.base, c.l...); got != c.most {
			t.Errorf("Most(%.20q, %.90q) = %d, want %d", c.base, c.l, got, c.most)
		}
		if got, e := tilde.Next(c.base, c.l...); got != c.next || e != c.e {
			t.Errorf("Next(%.20q, %.90q) = %.300q, %d, want %.300q, %d", c.base, c.l, got, e, c.next, c.e)
		}
		follows(t, c.base, c.l)
	}
}

// P8.1, P8.2: Most and Next of all short lists.
func TestMostNextLists(t *testing.T) {
	of := []string{"", "a", "a.~1~", "a.~2~", "a.~10~", "a.~9~", "a.~02~", "a.~0~", "a.~x~", "b.~7~", "a.~1~.~3~", "a.~999999998~", "a.~999999999~", "a.~1000000000~", ".~4~", "a/.~5~"}
	for _, l := range lists(4, of) {
		for _, base := range []string{"a", "b", "", "a.~1~", "a/"} {
			follows(t, base, l)
		}
	}
}

// P8.1, P8.2: backups that are made one behind the other, each of them beside the earlier ones in turned order.
func TestNextGrows(t *testing.T) {
	for _, base := range []string{"a", "~", "a.~1~", "é\xff", strings.Repeat("a", 249)} {
		var l []string
		for i := range 1200 {
			follows(t, base, l)
			got, e := tilde.Next(base, l...)
			if len(base) == 249 && i == 999 {
				if got != "" || e != api.ErrName {
					t.Errorf("Next of backup 999 of a long name = %q, %d", got, e)
				}
				break
			}
			if want := base + ".~" + strconv.Itoa(i+1) + "~"; got != want || e != api.OK {
				t.Fatalf("Next after %d = %q, %d, want %q", i, got, e, want)
			}
			l = append([]string{got}, l...)
			if i%3 == 0 {
				slices.Reverse(l)
			}
		}
	}
}

// P8.1, R1: a list of many names, with the greatest number at several places.
func TestMostMany(t *testing.T) {
	l := make([]string, 100000)
	for i := range l {
		l[i] = "a.~" + strconv.Itoa(i*7919%100003) + "~"
	}
	follows(t, "a", l)
	for _, at := range []int{0, 1, len(l) / 2, len(l) - 2, len(l) - 1} {
		was := l[at]
		l[at] = "a.~777777777~"
		if got := tilde.Most("a", l...); got != 777777777 {
			t.Errorf("Most = %d with the greatest at %d", got, at)
		}
		follows(t, "a", l)
		l[at] = was
	}
}

// P8.1, P8.2, beyond the inputs above.
func FuzzTilde(f *testing.F) {
	for _, s := range []string{"", "a", ".", "a/b", "~", "a.~1~", "\xff", "\x00", "a.~999999999~", "a.~01~"} {
		f.Add(s, "a.~2~", 1)
		f.Add(s, s+".~10~", -1)
		f.Add("a", s, 1000000000)
	}
	f.Fuzz(func(t *testing.T, base, s string, n int) {
		named(t, base, n)
		named(t, s, n)
		for _, x := range []string{s, base, base + s, base + ".~" + s, base + ".~" + s + "~", fmt.Sprintf("%s.~%d~", base, n)} {
			indexed(t, base, x)
			indexed(t, s, x)
			follows(t, base, []string{x, s, base + ".~3~"})
			follows(t, s, []string{x, base + ".~3~", s + ".~2~", x})
		}
	})
}
