package sizes_test

import (
	"fmt"
	"math"
	"net/url"
	"regexp"
	"slices"
	"sort"
	"strconv"
	"strings"
	"testing"

	"ragpicker/api"
	"ragpicker/sizes"
)

// plain are the bytes of a name that stand for themselves in a written line.
const plain = "ABCDEFGHIJKLMNOPQRSTUVWXYZabcdefghijklmnopqrstuvwxyz0123456789-._~"

// form is a line's, but for what its numbers and its name must be.
var form = regexp.MustCompile(`(?s)\A(0|-?[1-9][0-9]*) (0|-?[1-9][0-9]*) (.+)\z`)

// line is a line.
func line(size, time int, name string) api.Line {
	return api.Line{Size: size, Time: time, Name: name}
}

// told is lines for a message, the first ones if there are many.
func told(l ...api.Line) string {
	var b strings.Builder
	for _, x := range l[:min(len(l), 9)] {
		fmt.Fprintf(&b, "{%d %d %.40q}", x.Size, x.Time, x.Name)
	}
	return fmt.Sprintf("%s (%d)", b.String(), len(l))
}

// isName tells what chapter 2 says of a name.
func isName(s string) bool {
	return len(s) >= 1 && len(s) <= 255 && s != "." && s != ".." && strings.IndexByte(s, '/') < 0 && strings.IndexByte(s, 0) < 0
}

// isValid tells what the chapter says of a valid line.
func isValid(x api.Line) bool { return x.Size >= 0 && x.Time >= 0 && isName(x.Name) }

// wantWrite is Write told by package fmt.
func wantWrite(l []api.Line) string {
	var b strings.Builder
	for _, x := range l {
		if !isValid(x) {
			continue
		}
		fmt.Fprintf(&b, "%d %d ", x.Size, x.Time)
		for i := range len(x.Name) {
			if strings.IndexByte(plain, x.Name[i]) >= 0 {
				b.WriteByte(x.Name[i])
			} else {
				fmt.Fprintf(&b, "%%%02X", x.Name[i])
			}
		}
		b.WriteByte('\n')
	}
	return b.String()
}

// wantRead is the line of a text, by a regular expression and packages strconv and net/url.
func wantRead(text string) (api.Line, bool) {
	m := form.FindStringSubmatch(text)
	if m == nil {
		return api.Line{}, false
	}
	size, err1 := strconv.Atoi(m[1])
	time, err2 := strconv.Atoi(m[2])
	name, err3 := url.PathUnescape(m[3])
	x := line(size, time, name)
	return x, err1 == nil && err2 == nil && err3 == nil && isValid(x)
}

// rowsOf are the values of a map in the order of its keys.
func rowsOf(m map[string]api.Line) []api.Line {
	var l []api.Line
	for _, x := range m {
		l = append(l, x)
	}
	sort.Slice(l, func(i, j int) bool { return l[i].Name < l[j].Name })
	return l
}

// mapOf are rows by their names.
func mapOf(l []api.Line) map[string]api.Line {
	m := map[string]api.Line{}
	for _, x := range l {
		m[x.Name] = x
	}
	return m
}

// wantParse is Parse told by a map.
func wantParse(s string) []api.Line {
	m := map[string]api.Line{}
	for _, text := range strings.Split(s, "\n") {
		if x, ok := wantRead(text); ok {
			m[x.Name] = x
		}
	}
	return rowsOf(m)
}

// written holds the answer of Write against what P7.1 says of it.
func written(t *testing.T, l []api.Line) {
	t.Helper()
	kept := slices.Clone(l)
	if got, want := sizes.Write(l), wantWrite(l); got != want {
		t.Errorf("Write of %s = %.200q, want %.200q", told(l...), got, want)
	}
	if !slices.Equal(l, kept) {
		t.Errorf("Write of %s leaves %s", told(kept...), told(l...))
	}
}

// parsed holds the answer of Parse against what P7.1 says of it.
func parsed(t *testing.T, s string) {
	t.Helper()
	if got, want := sizes.Parse(s), wantParse(s); !slices.Equal(got, want) {
		t.Errorf("Parse(%.200q), %d bytes, = %s, want %s", s, len(s), told(got...), told(want...))
	}
}

// spare is what is put behind the end of lists.
var spare = line(-77, -77, "spare")

// roomy is a list of the same lines in new memory with room behind its end, and that memory whole.
func roomy(l []api.Line, room int) (list, memory []api.Line) {
	memory = make([]api.Line, len(l)+room)
	copy(memory, l)
	for i := len(l); i < len(memory); i++ {
		memory[i] = spare
	}
	return memory[:len(l)], memory
}

// edited holds what Put or Drop answers for lists of those lines against what is wanted, and what was handed in against what it was, also after the answer was written to.
func edited(t *testing.T, call string, l, want []api.Line, f func([]api.Line) []api.Line) {
	t.Helper()
	for _, room := range []int{0, 1, 3} {
		list, memory := roomy(l, room)
		kept := slices.Clone(memory)
		got := f(list)
		if !slices.Equal(got, want) {
			t.Errorf("%s of %s = %s, want %s", call, told(l...), told(got...), told(want...))
		}
		if !slices.Equal(memory, kept) {
			t.Errorf("%s of %s with room for %d leaves %s, want %s", call, told(l...), room, told(memory...), told(kept...))
		}
		got = got[:cap(got)]
		for i := range got {
			got[i] = line(-99, -99, "overwritten")
		}
		if !slices.Equal(memory, kept) {
			t.Errorf("the answer of %s of %s with room for %d is not of new memory", call, told(l...), room)
		}
	}
}

// put holds the answer of Put against what P7.2 says of it.
func put(t *testing.T, l []api.Line, x api.Line) {
	t.Helper()
	m := mapOf(l)
	m[x.Name] = x
	edited(t, "Put "+told(x), l, rowsOf(m), func(l []api.Line) []api.Line { return sizes.Put(l, x) })
}

// dropped holds the answer of Drop against what P7.2 says of it.
func dropped(t *testing.T, l []api.Line, n string) {
	t.Helper()
	m := mapOf(l)
	delete(m, n)
	edited(t, fmt.Sprintf("Drop %.60q", n), l, rowsOf(m), func(l []api.Line) []api.Line { return sizes.Drop(l, n) })
}

// found holds the answer of Find against what P7.2 says of it.
func found(t *testing.T, l []api.Line, n string) {
	t.Helper()
	want, there := mapOf(l)[n]
	for _, room := range []int{0, 2} {
		list, memory := roomy(l, room)
		kept := slices.Clone(memory)
		if got, ok := sizes.Find(list, n); got != want || ok != there {
			t.Errorf("Find of %s, %.60q = %s, %v, want %s, %v", told(l...), n, told(got), ok, told(want), there)
		}
		if !slices.Equal(memory, kept) {
			t.Errorf("Find of %s, %.60q leaves %s", told(l...), n, told(memory...))
		}
	}
}

// follows holds Parse of what Write answers against the rows that Write was given.
func follows(t *testing.T, l []api.Line) {
	t.Helper()
	s := sizes.Write(l)
	if got := sizes.Parse(s); !slices.Equal(got, l) {
		t.Errorf("Parse of Write of %s = %s, by %.200q", told(l...), told(got...), s)
	}
}

// names are ones that may be, and wrong are texts that are none.
func names() []string {
	l := []string{
		"a", "b", "a b", " ", "  ", " a", "a ", "\t", "\n", "a\nb", "\n1 2 a\n", "\r", "a\r", "%", "%%", "%41", "%00", "%2F", "100%", "...", "..a", ".a", "a.", "-", "-1", "1", "1 2 a", "+", "a+b", "~", "a~", "_",
		"é", "\x7f", "\x80", "\xff", "\xc3", "\xa9", "\xff\xfe", "\ufeffa", "\x01", "日本", "my file.tar.gz", "\"", "\\", "A", "Z", "z", "0", "9", ":", "@", "[", "`", "{",
		strings.Repeat("a", 254), strings.Repeat("a", 255), strings.Repeat(" ", 255), strings.Repeat("\xff", 255), strings.Repeat(".", 255), strings.Repeat("é", 127),
	}
	for b := 1; b < 256; b++ {
		if b != '/' && b != '.' {
			l = append(l, string([]byte{byte(b)}))
		}
	}
	return l
}

func wrong() []string {
	return []string{
		"", ".", "..", "/", "a/", "/a", "a/b", "//", "./", "../", "../a", "\x00", "a\x00", "\x00a", "a\x00b", "/\x00",
		strings.Repeat("a", 256), strings.Repeat(" ", 256), strings.Repeat("\xff", 256), strings.Repeat("é", 128), strings.Repeat("a", 5000), strings.Repeat("/", 255), strings.Repeat("a", 255) + "/", strings.Repeat("a", 255) + "\x00",
	}
}

// lists are all lists of at most most of what is given, with each of them as often as it will.
func lists[T any](most int, of []T) [][]T {
	all := [][]T{nil}
	for from := 0; most > 0; most-- {
		to := len(all)
		for _, l := range all[from:to] {
			for _, x := range of {
				all = append(all, append(slices.Clone(l), x))
			}
		}
		from = to
	}
	return all
}

// P7.1: what Write answers.
func TestWrite(t *testing.T) {
	for _, c := range []struct {
		l    []api.Line
		want string
	}{
		{nil, ""},
		{[]api.Line{}, ""},
		{[]api.Line{{}}, ""},
		{[]api.Line{line(5, 7, "a b")}, "5 7 a%20b\n"},
		{[]api.Line{line(0, 0, "a")}, "0 0 a\n"},
		{[]api.Line{line(0, 1, "a"), line(1, 0, "b")}, "0 1 a\n1 0 b\n"},
		{[]api.Line{line(math.MaxInt, math.MaxInt, "a")}, "9223372036854775807 9223372036854775807 a\n"},
		{[]api.Line{line(math.MaxInt, 0, "a")}, "9223372036854775807 0 a\n"},
		{[]api.Line{line(0, math.MaxInt, "a")}, "0 9223372036854775807 a\n"},
		{[]api.Line{line(10, 253402300800, "a")}, "10 253402300800 a\n"},
		// Any order, and a name several times.
		{[]api.Line{line(3, 4, "b"), line(1, 2, "a")}, "3 4 b\n1 2 a\n"},
		{[]api.Line{line(1, 2, "c"), line(3, 4, "a"), line(5, 6, "b")}, "1 2 c\n3 4 a\n5 6 b\n"},
		{[]api.Line{line(1, 2, "a"), line(3, 4, "a"), line(1, 2, "a")}, "1 2 a\n3 4 a\n1 2 a\n"},
		// Lines that are omitted.
		{[]api.Line{line(-1, 0, "a")}, ""},
		{[]api.Line{line(0, -1, "a")}, ""},
		{[]api.Line{line(-1, -1, "a")}, ""},
		{[]api.Line{line(math.MinInt, 1, "a"), line(1, math.MinInt, "a")}, ""},
		{[]api.Line{line(1, 2, ""), line(3, 4, "."), line(5, 6, ".."), line(7, 8, "a/b"), line(9, 10, "a\x00"), line(11, 12, "...")}, "11 12 ...\n"},
		{[]api.Line{line(1, 2, "a"), line(-1, 2, "a"), line(3, 4, "b"), line(5, -6, "c"), line(7, 8, "d")}, "1 2 a\n3 4 b\n7 8 d\n"},
		{[]api.Line{line(1, 2, strings.Repeat("a", 256)), line(3, 4, strings.Repeat("a", 255))}, "3 4 " + strings.Repeat("a", 255) + "\n"},
		{[]api.Line{line(1, 2, strings.Repeat(" ", 255)), line(3, 4, strings.Repeat(" ", 256))}, "1 2 " + strings.Repeat("%20", 255) + "\n"},
		// Names with bytes that don't stand for themselves.
		{[]api.Line{line(1, 2, "\n"), line(3, 4, "a\nb")}, "1 2 %0A\n3 4 a%0Ab\n"},
		{[]api.Line{line(1, 2, " "), line(3, 4, "%"), line(5, 6, "%20")}, "1 2 %20\n3 4 %25\n5 6 %2520\n"},
		{[]api.Line{line(1, 2, "é"), line(3, 4, "\x80\xff")}, "1 2 %C3%A9\n3 4 %80%FF\n"},
		{[]api.Line{line(1, 2, "\t\r"), line(3, 4, "a-._~Z9"), line(5, 6, "+\x7f\x01")}, "1 2 %09%0D\n3 4 a-._~Z9\n5 6 %2B%7F%01\n"},
	} {
		if got := sizes.Write(c.l); got != c.want {
			t.Errorf("Write of %s = %.200q, want %.200q", told(c.l...), got, c.want)
		}
		written(t, c.l)
	}
}

// P7.1: Write of each name and of each text that is none, with numbers of all kinds.
func TestWriteNames(t *testing.T) {
	numbers := []int{0, 1, 7, 9, 10, 123456789, math.MaxInt - 1, math.MaxInt, -1, -10, math.MinInt, math.MinInt + 1}
	var l []api.Line
	for _, n := range append(names(), wrong()...) {
		for _, size := range numbers {
			for _, time := range numbers {
				x := line(size, time, n)
				written(t, []api.Line{x})
				l = append(l, x)
			}
		}
	}
	written(t, l)
	slices.Reverse(l)
	written(t, l)
}

// P7.1: Write of all short lists, also with room behind their ends.
func TestWriteLists(t *testing.T) {
	of := []api.Line{{}, line(1, 2, "a"), line(3, 4, "a"), line(0, 0, "b c"), line(5, 6, "\xff"), line(-1, 2, "a"), line(1, -2, "b"), line(1, 2, ".."), line(1, 2, "x/y"), line(math.MaxInt, 0, "\n")}
	for _, l := range lists(4, of) {
		written(t, l)
		list, memory := roomy(l, 2)
		kept := slices.Clone(memory)
		written(t, list)
		if !slices.Equal(memory, kept) {
			t.Errorf("Write of %s leaves %s", told(l...), told(memory...))
		}
	}
}

// P7.1: what Parse answers.
func TestParse(t *testing.T) {
	const most = "9223372036854775807"
	for _, c := range []struct {
		s    string
		want []api.Line
	}{
		{"x\n1 2 a\n3 4 a\n", []api.Line{line(3, 4, "a")}},
		{"5 7 a%20b\n", []api.Line{line(5, 7, "a b")}},
		// Newlines at the end, at the start and between.
		{"1 2 a", []api.Line{line(1, 2, "a")}},
		{"1 2 a\n", []api.Line{line(1, 2, "a")}},
		{"\n1 2 a", []api.Line{line(1, 2, "a")}},
		{"\n\n\n1 2 a\n\n\n", []api.Line{line(1, 2, "a")}},
		{"1 2 a\n3 4 b", []api.Line{line(1, 2, "a"), line(3, 4, "b")}},
		{"1 2 a\n\n\n3 4 b\n", []api.Line{line(1, 2, "a"), line(3, 4, "b")}},
		// Blanks in the remainder.
		{"1 2 a b", []api.Line{line(1, 2, "a b")}},
		{"1 2  ", []api.Line{line(1, 2, " ")}},
		{"1 2  a", []api.Line{line(1, 2, " a")}},
		{"1 2 a ", []api.Line{line(1, 2, "a ")}},
		{"1 2  a  b  ", []api.Line{line(1, 2, " a  b  ")}},
		{"1 2 3 4 a", []api.Line{line(1, 2, "3 4 a")}},
		// Numbers.
		{"0 0 a", []api.Line{line(0, 0, "a")}},
		{most + " " + most + " a", []api.Line{line(math.MaxInt, math.MaxInt, "a")}},
		{"10 100 1", []api.Line{line(10, 100, "1")}},
		{"1 253402300800 a", []api.Line{line(1, 253402300800, "a")}},
		// Names.
		{"1 2 %41%4a%4A", []api.Line{line(1, 2, "AJJ")}},
		{"1 2 %0a", []api.Line{line(1, 2, "\n")}},
		{"1 2 %2500", []api.Line{line(1, 2, "%00")}},
		{"1 2 a+b", []api.Line{line(1, 2, "a+b")}},
		{"1 2 é\xff%C3%A9", []api.Line{line(1, 2, "é\xffé")}},
		{"1 2 ...", []api.Line{line(1, 2, "...")}},
		{"1 2 -._~", []api.Line{line(1, 2, "-._~")}},
		{"1 2 .%2e.", []api.Line{line(1, 2, "...")}},
		{"1 2 " + strings.Repeat("a", 255), []api.Line{line(1, 2, strings.Repeat("a", 255))}},
		{"1 2 " + strings.Repeat("%61", 255), []api.Line{line(1, 2, strings.Repeat("a", 255))}},
		// Tabs, carriage returns and other white space are nothing special.
		{"1 2 a\r\n", []api.Line{line(1, 2, "a\r")}},
		{"1 2 \r", []api.Line{line(1, 2, "\r")}},
		{"1 2 \ta\t", []api.Line{line(1, 2, "\ta\t")}},
		{"1 2 a\r3 4 b\n", []api.Line{line(1, 2, "a\r3 4 b")}},
		{"1 2 \v\f\u00a0\u2028", []api.Line{line(1, 2, "\v\f\u00a0\u2028")}},
		// Any order of lines; the names' order is that of their bytes.
		{"1 2 b\n3 4 a\n", []api.Line{line(3, 4, "a"), line(1, 2, "b")}},
		{"1 1 c\n2 2 b\n3 3 a\n", []api.Line{line(3, 3, "a"), line(2, 2, "b"), line(1, 1, "c")}},
		{"1 1 b\n2 2 c\n3 3 a\n", []api.Line{line(3, 3, "a"), line(1, 1, "b"), line(2, 2, "c")}},
		{"1 1 a\n2 2 B\n3 3 ab\n4 4 \xff\n5 5 é\n6 6 %20\n7 7 %0A\n8 8 10\n9 9 9\n", []api.Line{line(7, 7, "\n"), line(6, 6, " "), line(8, 8, "10"), line(9, 9, "9"), line(2, 2, "B"), line(1, 1, "a"), line(3, 3, "ab"), line(5, 5, "é"), line(4, 4, "\xff")}},
		// The order is that of the names, not of the texts that stand for them.
		{"1 1 %7A\n2 2 a\n3 3 %\n4 4 +\n", []api.Line{line(4, 4, "+"), line(2, 2, "a"), line(1, 1, "z")}},
		// Of several lines with the same name the last valid one.
		{"1 2 a\n3 4 a", []api.Line{line(3, 4, "a")}},
		{"3 4 a\n1 2 a", []api.Line{line(1, 2, "a")}},
		{"1 2 a\n3 4 %61", []api.Line{line(3, 4, "a")}},
		{"3 4 %61\n1 2 a", []api.Line{line(1, 2, "a")}},
		{"1 2 a\n3 4 b\n5 6 a\n7 8 b\n9 9 a", []api.Line{line(9, 9, "a"), line(7, 8, "b")}},
		{"1 2 a\n3 4 a\n-5 6 a", []api.Line{line(3, 4, "a")}},
		{"1 2 a\n3 4 a\n5 -6 a", []api.Line{line(3, 4, "a")}},
		{"1 2 a\n-3 4 a\n5 6 a", []api.Line{line(5, 6, "a")}},
		{"-1 2 a\n3 4 a\n05 6 a", []api.Line{line(3, 4, "a")}},
		{"1 2 a\n3 4 a%\n3 4 a%00\n3 4 a/\n3 a", []api.Line{line(1, 2, "a")}},
		{"1 2 a\n1 2 a\n1 2 a", []api.Line{line(1, 2, "a")}},
		{"0 0 a\n1 2 b\n0 0 b", []api.Line{line(0, 0, "a"), line(0, 0, "b")}},
	} {
		if got := sizes.Parse(c.s); !slices.Equal(got, c.want) {
			t.Errorf("Parse(%.90q) = %s, want %s", c.s, told(got...), told(c.want...))
		}
		parsed(t, c.s)
	}
}

// P7.1: what Parse ignores, alone and among others.
func TestParseWrong(t *testing.T) {
	const over = "9223372036854775808"
	l := []string{
		"", " ", "  ", "   ", "x", "a", "1", "-1", "%", "\t", "\r", "\x00", "#",
		// Blanks.
		"1 2", "1 2 ", "1 ", "1  ", "1  a", "1 a", "1 a b", "12 a", "a 1 2", "1 a 2", "a b c",
		" 1 2 a", "  1 2 a", "1  2 a", "1   2 a", "  a", "1  2  a", " 1 2", "1\t2\ta", "1 2\ta", "1\t2 a", "\t1 2 a", "1\t 2 a", "1 \t2 a", "1 2\t a", "1 2\r a", "1\r 2 a", "\r1 2 a", "1\u00a02\u00a0a", "1+2+a", "1%202%20a", "1 2%20a", "1,2,a", "1\v2 a",
		// Numbers.
		"-1 2 a", "1 -2 a", "-1 -2 a", "-0 2 a", "1 -0 a", "+1 2 a", "1 +2 a", "01 2 a", "1 02 a", "00 2 a", "1 00 a", "-01 2 a", "0x1 2 a", "1 0x2 a", "1. 2 a", "1.5 2 a", "1 2.0 a", "1e3 2 a", "1_0 2 a", "1 2_0 a", "- 2 a", "1 - a", "x 2 a", "1 x a", "1a 2 a", "1 2a a", "1\x00 2 a", "%31 2 a", "1 %32 a", "٣ 2 a",
		over + " 2 a", "1 " + over + " a", "-" + over + " 2 a", "1 -" + over + " a", "99999999999999999999 2 a", "1 18446744073709551617 a", "-9223372036854775809 2 a", strings.Repeat("1", 1000) + " 2 a", "1 " + strings.Repeat("0", 1000) + "2 a",
		// A wrong percent-encoding.
		"1 2 %", "1 2 %4", "1 2 %zz", "1 2 %4g", "1 2 %g4", "1 2 a%", "1 2 a%4", "1 2 %%41", "1 2 % 41", "1 2 %4 1", "1 2 100%", "1 2 %41%", "1 2 %-1", "1 2 %0x", "1 2 a% b",
		// A text that is no name.
		"1 2 .", "1 2 ..", "1 2 /", "1 2 a/b", "1 2 /a", "1 2 a/", "1 2 \x00", "1 2 a\x00b", "1 2 %00", "1 2 a%00", "1 2 %2F", "1 2 a%2fb", "1 2 %2e", "1 2 %2E%2e", "1 2 .%2E", "1 2 %2F%2F",
		"1 2 " + strings.Repeat("a", 256), "1 2 " + strings.Repeat("%61", 256), "1 2 " + strings.Repeat(" ", 256), "1 2 " + strings.Repeat("a", 255) + "%61", "1 2 " + strings.Repeat("a", 1<<16),
	}
	for _, s := range l {
		if got := sizes.Parse(s); len(got) != 0 {
			t.Errorf("Parse(%.90q) = %s", s, told(got...))
		}
		among := "1 2 b\n" + s + "\n3 4 a\n" + s + "\n5 6 b\n" + s
		if got := sizes.Parse(among); !slices.Equal(got, []api.Line{line(3, 4, "a"), line(5, 6, "b")}) {
			t.Errorf("Parse(%.90q) = %s", among, told(got...))
		}
		parsed(t, s)
	}
	all := strings.Join(l, "\n")
	if got := sizes.Parse(all); len(got) != 0 {
		t.Errorf("Parse of all wrong lines = %s", told(got...))
	}
}

// P7.1: all texts of a few lines.
func TestParseLines(t *testing.T) {
	lines := []string{"", "x", "1 2 a", "3 4 a", "5 6 %61", "-1 2 a", "1 2", "7 8 b", "9 0 b", "0 -1 b", "1 1 B", "2 2 a b", "3 3 %", "4 4 .."}
	for _, l := range lists(4, lines) {
		s := strings.Join(l, "\n")
		parsed(t, s)
		parsed(t, s+"\n")
	}
}

// P7.1: all short texts out of what matters in a line.
func TestParsePieces(t *testing.T) {
	pieces := []string{"0", "1", "-", " ", "\n", "a", "%", "41", ".", "/", "\x00", "\t", "\r"}
	for _, l := range lists(5, pieces) {
		parsed(t, strings.Join(l, ""))
	}
	for _, l := range lists(3, pieces) {
		s := strings.Join(l, "")
		parsed(t, s+" 2 a")
		parsed(t, "1 "+s+" a")
		parsed(t, "1 2 "+s)
		parsed(t, "1 2 a\n3 4 "+s+"\n5 6 b")
		parsed(t, "1"+s+"2 a")
		parsed(t, "1 2"+s+"a")
		parsed(t, "1 2 a"+s+"3 4 b")
	}
}

// P7.1: texts from which a byte is left out, in which it is doubled, or replaced by another one.
func TestParseBytes(t *testing.T) {
	for _, s := range []string{"1 2 a\n", "12 345 a%20b\n0 6 c\n", "1 2 b\n3 4 a\n5 6 b\nx\n-7 8 %62\n9 9 A"} {
		parsed(t, s)
		for i := range len(s) {
			parsed(t, s[:i])
			parsed(t, s[i:])
			parsed(t, s[:i]+s[i+1:])
			parsed(t, s[:i+1]+s[i:])
			for b := range 256 {
				c := string([]byte{byte(b)})
				parsed(t, s[:i]+c+s[i+1:])
				parsed(t, s[:i]+c+s[i:])
			}
		}
	}
}

// P7.1, R1: long texts, and texts of many lines.
func TestParseLong(t *testing.T) {
	const n = 1 << 14
	for _, s := range []string{"\n", " ", "\r\n", "1", "0", "-", "%", "%41", "a", "1 ", "1 2 ", "1 2 a", "1 2 a\n", "x\n", "\x00", "\xff", "é", "1 2 %\n"} {
		long := strings.Repeat(s, n)
		for _, text := range []string{long, long + " 2 a", "1 " + long + " a", "1 2 " + long, "1 2 a\n" + long, long + "\n1 2 a"} {
			parsed(t, text)
		}
	}
	for _, step := range []int{1, 7, 99991, 99990} { // rising, mixed, falling and mixed; the last names come twice
		var b strings.Builder
		for i := range 100000 {
			fmt.Fprintf(&b, "%d %d n%05d\n", i, i+1, i*step%99992)
		}
		parsed(t, b.String())
	}
}

// P7.2: what the three calls answer.
func TestRows(t *testing.T) {
	a, b, c, b2 := line(1, 2, "a"), line(3, 4, "b"), line(5, 6, "c"), line(7, 8, "b")
	for _, x := range []struct {
		l         []api.Line
		put, drop []api.Line
		found     bool
	}{
		{nil, []api.Line{b2}, nil, false},
		{[]api.Line{}, []api.Line{b2}, nil, false},
		{[]api.Line{a}, []api.Line{a, b2}, []api.Line{a}, false},
		{[]api.Line{b}, []api.Line{b2}, nil, true},
		{[]api.Line{c}, []api.Line{b2, c}, []api.Line{c}, false},
		{[]api.Line{a, b}, []api.Line{a, b2}, []api.Line{a}, true},
		{[]api.Line{b, c}, []api.Line{b2, c}, []api.Line{c}, true},
		{[]api.Line{a, c}, []api.Line{a, b2, c}, []api.Line{a, c}, false},
		{[]api.Line{a, b, c}, []api.Line{a, b2, c}, []api.Line{a, c}, true},
	} {
		if got := sizes.Put(x.l, b2); !slices.Equal(got, x.put) {
			t.Errorf("Put of %s, %s = %s, want %s", told(x.l...), told(b2), told(got...), told(x.put...))
		}
		if got := sizes.Drop(x.l, "b"); !slices.Equal(got, x.drop) {
			t.Errorf("Drop of %s, b = %s, want %s", told(x.l...), told(got...), told(x.drop...))
		}
		want := api.Line{}
		if x.found {
			want = b
		}
		if got, ok := sizes.Find(x.l, "b"); got != want || ok != x.found {
			t.Errorf("Find of %s, b = %s, %v, want %s, %v", told(x.l...), told(got), ok, told(want), x.found)
		}
	}
}

// P7.2: each choice of rows out of some lines, and each name among theirs, between, ahead and behind. Rows need not be valid.
func TestRowsAll(t *testing.T) {
	of := []api.Line{line(-3, -4, ""), line(1, 2, "\n"), line(0, 0, ".."), line(3, 4, "B"), line(5, 6, "a"), line(7, 8, "a b"), line(-1, 0, "b/"), line(math.MaxInt, math.MinInt, "\xff")}
	others := []string{"", "\x00", "\n", "\n\n", ".", "..", "...", "A", "B", "Ba", "a", "a ", "a b", "a c", "b", "b/", "b/a", "z", "é", "\xfe", "\xff", "\xff\xff", "spare", strings.Repeat("a", 300)}
	for choice := range 1 << len(of) {
		var l []api.Line
		for i, x := range of {
			if choice>>i&1 == 1 {
				l = append(l, x)
			}
		}
		for _, n := range others {
			put(t, l, line(100, 200, n))
			put(t, l, line(-100, -200, n))
			put(t, l, api.Line{Name: n})
			dropped(t, l, n)
			found(t, l, n)
		}
	}
}

// P7.2: longer rows, at every place.
func TestRowsLong(t *testing.T) {
	var l []api.Line
	for i := range 200 {
		l = append(l, line(i, i*i, fmt.Sprintf("n%03d", 2*i+1)))
	}
	for i := range 402 {
		n := fmt.Sprintf("n%03d", i)
		put(t, l, line(-i, i, n))
		dropped(t, l, n)
		found(t, l, n)
	}
}

// P7.2: rows that are put together and taken apart again, line by line.
func TestRowsGrow(t *testing.T) {
	m := map[string]api.Line{}
	var l []api.Line
	for i := range 1000 {
		x := line(i, 1000-i, strconv.Itoa(i*271%400))
		m[x.Name] = x
		l = sizes.Put(l, x)
		if want := rowsOf(m); !slices.Equal(l, want) {
			t.Fatalf("after %d lines: %s, want %s", i, told(l...), told(want...))
		}
	}
	follows(t, l)
	for i := range 500 {
		n := strconv.Itoa(i * 17 % 401)
		delete(m, n)
		l = sizes.Drop(l, n)
		if want := rowsOf(m); !slices.Equal(l, want) {
			t.Fatalf("after %d drops: %s, want %s", i, told(l...), told(want...))
		}
		if x, ok := sizes.Find(l, n); ok || x != (api.Line{}) {
			t.Fatalf("Find of %q = %s, %v after Drop", n, told(x), ok)
		}
	}
}

// R1, R4: lists that are no rows. What is answered is not promised, only that an answer comes and that the list is as it was.
func TestNoRows(t *testing.T) {
	of := []api.Line{line(1, 2, "a"), line(3, 4, "a"), line(5, 6, "b"), line(-1, -1, ""), line(0, 0, "\xff")}
	for _, l := range lists(4, of) {
		for _, n := range []string{"", "a", "aa", "b", "c", "\xff"} {
			list, memory := roomy(l, 2)
			kept := slices.Clone(memory)
			sizes.Put(list, api.Line{Size: 9, Name: n})
			sizes.Drop(list, n)
			sizes.Find(list, n)
			if !slices.Equal(memory, kept) {
				t.Errorf("%s with %q is left as %s", told(kept...), n, told(memory...))
			}
		}
	}
}

// P7.3: Parse reads what Write has written.
func TestFollows(t *testing.T) {
	numbers := []int{0, 1, 10, 253402300799, math.MaxInt - 1, math.MaxInt}
	m := map[string]api.Line{}
	for i, n := range names() {
		for _, size := range numbers {
			for _, time := range numbers {
				follows(t, []api.Line{line(size, time, n)})
			}
		}
		m[n] = line(i, numbers[i%len(numbers)], n)
		follows(t, rowsOf(m))
	}
	follows(t, nil)
	// What is invalid is lost on the way, and what is no rows becomes them.
	l := rowsOf(m)
	mixed := []api.Line{line(-1, 2, "a")}
	for i, x := range l {
		mixed = append(mixed, line(99, 99, x.Name), api.Line{Name: wrong()[i%len(wrong())]})
	}
	for i := range l {
		mixed = append(mixed, l[len(l)-1-i], api.Line{Time: -1, Name: l[i].Name})
	}
	if got := sizes.Parse(sizes.Write(mixed)); !slices.Equal(got, l) {
		t.Errorf("Parse of Write of a mixed list = %s, want %s", told(got...), told(l...))
	}
}

// P7.1 to P7.3, beyond the inputs above.
func FuzzSizes(f *testing.F) {
	for _, s := range []string{"", "x", "a b", "\n", "%", "..", "\xff", "1 2 a\n3 4 a\n-1 2 a\n5 6 %62", "0 00 a\n1 2  \n1 2 /", "1 2 c\n1 2 b\n3 4 a\r\n5 6 b"} {
		f.Add(s, 1, 2)
		f.Add(s, -1, math.MaxInt)
	}
	f.Fuzz(func(t *testing.T, s string, size, time int) {
		parsed(t, s)
		parsed(t, strconv.Itoa(size)+" "+strconv.Itoa(time)+" "+s)
		l := sizes.Parse(s)
		follows(t, l)
		x := line(size, time, s)
		written(t, []api.Line{x, line(time, size, "a"), x})
		put(t, l, x)
		dropped(t, l, s)
		found(t, l, s)
		for _, y := range l {
			put(t, l, line(size, time, y.Name))
			dropped(t, l, y.Name)
			found(t, l, y.Name)
		}
	})
}
