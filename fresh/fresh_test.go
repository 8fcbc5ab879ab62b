package fresh_test

import (
	"fmt"
	"math"
	"slices"
	"strconv"
	"strings"
	"testing"

	"ragpicker/api"
	"ragpicker/fresh"
)

// The document's numbers, written out.
const (
	room  = 245
	tries = 1000
)

// wantNth is Nth told by package fmt, with one byte after the other of the base taken while there is room.
func wantNth(base string, n int) string {
	end := ""
	if n >= 2 {
		end = fmt.Sprintf(".%d", n)
	}
	head := ""
	for len(head) < len(base) && len(head)+len(end) < room {
		head = base[:len(head)+1]
	}
	return head + end
}

// wantNames is what Names has to yield.
func wantNames(base string) []string {
	var l []string
	for n := 1; n <= tries; n++ {
		l = append(l, wantNth(base, n))
	}
	return l
}

// wantFree is Free told by sorting.
func wantFree(base string, taken []string) (string, bool) {
	sorted := slices.Sorted(slices.Values(taken))
	for n := 1; n <= tries; n++ {
		s := wantNth(base, n)
		if _, found := slices.BinarySearch(sorted, s); !found {
			return s, true
		}
	}
	return "", false
}

// tried holds the answer of Nth against what P9.1 says of it.
func tried(t *testing.T, base string, n int) {
	t.Helper()
	got := fresh.Nth(base, n)
	if want := wantNth(base, n); got != want {
		t.Errorf("Nth(%.60q, %d), of %d bytes, = %.300q, want %.300q", base, n, len(base), got, want)
	}
	if len(got) > room {
		t.Errorf("Nth(%.60q, %d), of %d bytes, has %d bytes", base, n, len(base), len(got))
	}
}

// yielded holds what Names yields against what P9.1 says of it.
func yielded(t *testing.T, base string) {
	t.Helper()
	if got, want := slices.Collect(fresh.Names(base)), wantNames(base); !slices.Equal(got, want) {
		t.Errorf("Names(%.60q), of %d bytes, yields %d names, %.900q, want %.900q", base, len(base), len(got), got, want)
	}
}

// found holds the answer of Free against what P9.1 says of it, and the list, with what is behind its end, against what it was.
func found(t *testing.T, base string, taken []string) {
	t.Helper()
	list := append(slices.Clone(taken), "behind", base, "behind")
	kept := slices.Clone(list)
	want, is := wantFree(base, taken)
	for range 2 {
		if got, ok := fresh.Free(base, list[:len(taken)]...); got != want || ok != is {
			t.Errorf("Free(%.60q, %.300q), of %d bytes and %d names, = %.300q, %t, want %.300q, %t", base, taken, len(base), len(taken), got, ok, want, is)
		}
		// After each call: a second one might turn back what the first one did.
		if !slices.Equal(list, kept) {
			t.Errorf("Free(%.60q, %.300q) leaves %.300q", base, kept, list)
		}
	}
}

// lists are all lists of at most most of what is given, with each of them as often as it will.
func lists(most int, of []string) [][]string {
	all := [][]string{nil}
	for from := 0; most > 0; most-- {
		to := len(all)
		for _, l := range all[from:to] {
			for _, x := range of {
				all = append(all, append(slices.Clone(l), x))
			}
		}
		from = to
	}
	return all
}

// a is a base of n bytes.
func a(n int) string { return strings.Repeat("a", n) }

// bases are texts of all kinds, names or not.
func bases() []string {
	l := []string{
		"", "abc", "a b", "a.", ".a", "a.2", "a.1", "a.02", "a.1000", "a.1001", "a.2.3", ".2", ".", "..", "...", "2", "-1", "a.tar.gz", "a/b", "/", "/a/", "a\x00", "\x00", "a\n", "%41", "a.trashinfo", "a.~1~",
		"\xff\xfe", "é", "日本", "😀", a(256), a(490), a(1000), a(5000), strings.Repeat("/", 300), strings.Repeat("\x00", 300), strings.Repeat(".", 300), strings.Repeat("\xff", 300), strings.Repeat(".2", 200),
	}
	for n := 220; n <= 260; n++ {
		l = append(l, a(n))
	}
	for b := range 256 {
		l = append(l, string([]byte{byte(b)}), a(244)+string([]byte{byte(b)}), a(245)+string([]byte{byte(b)}))
	}
	return l
}

// numbers are those around 1 and around the last one that is tried, each greatest and least one of so many digits, and the ends of int.
func numbers() []int {
	l := []int{math.MinInt, math.MinInt + 1, math.MinInt32, -1000, -10, -2, -1, 0, 1, 2, 3, 7, 12, 305, 998, 999, 1000, 1001, 1002, 1 << 31, 1 << 32, math.MaxInt - 1, math.MaxInt}
	for n := 1; n <= 100000000000000000; n *= 10 {
		l = append(l, n-1, n, n+1, -n)
	}
	return append(l, 999999999999999999, 1000000000000000000)
}

// P9.1: Room, which is a constant.
func TestRoom(t *testing.T) {
	const got = fresh.Room
	if got != room {
		t.Errorf("Room = %d, want %d", got, room)
	}
	if got+len(".trashinfo") != api.MaxName {
		t.Errorf("Room = %d, which is not what .trashinfo leaves of a name", got)
	}
}

// P9.1: what Nth answers.
func TestNth(t *testing.T) {
	for _, c := range []struct {
		base string
		n    int
		want string
	}{
		{"a", math.MinInt, "a"}, {"a", -1, "a"}, {"a", 0, "a"}, {"a", 1, "a"}, {"a", 2, "a.2"}, {"a", 3, "a.3"}, {"a", 9, "a.9"}, {"a", 10, "a.10"}, {"a", 11, "a.11"}, {"a", 99, "a.99"}, {"a", 100, "a.100"}, {"a", 999, "a.999"}, {"a", 1000, "a.1000"},
		// Nth has no last number.
		{"a", 1001, "a.1001"}, {"a", 1000000000, "a.1000000000"}, {"a", math.MaxInt, "a.9223372036854775807"},
		// Any base.
		{"", -1, ""}, {"", 0, ""}, {"", 1, ""}, {"", 2, ".2"}, {"", 10, ".10"}, {"", 1000, ".1000"}, {"", math.MaxInt, ".9223372036854775807"},
		{"a.2", 1, "a.2"}, {"a.2", 2, "a.2.2"}, {"a.2", 3, "a.2.3"}, {"a.", 2, "a..2"}, {".", 1, "."}, {".", 2, "..2"}, {"..", 1, ".."}, {"..", 3, "...3"}, {"a/b", 1, "a/b"}, {"a/b", 2, "a/b.2"}, {"/", 2, "/.2"}, {"a\x00", 2, "a\x00.2"}, {"a b\n", 2, "a b\n.2"}, {"\xff", 2, "\xff.2"}, {"é", 2, "é.2"}, {"a.txt", 2, "a.txt.2"},
		// One name, cut or not.
		{a(244), 1, a(244)}, {a(245), 1, a(245)}, {a(246), 1, a(245)}, {a(255), 1, a(245)}, {a(256), 1, a(245)}, {a(5000), 1, a(245)}, {a(246), 0, a(245)}, {a(246), -1, a(245)}, {a(5000), math.MinInt, a(245)},
		// The point and the digits are within the room.
		{a(242), 2, a(242) + ".2"}, {a(243), 2, a(243) + ".2"}, {a(244), 2, a(243) + ".2"}, {a(245), 2, a(243) + ".2"}, {a(246), 2, a(243) + ".2"}, {a(255), 9, a(243) + ".9"}, {a(5000), 2, a(243) + ".2"},
		{a(242), 10, a(242) + ".10"}, {a(243), 10, a(242) + ".10"}, {a(245), 99, a(242) + ".99"}, {a(241), 100, a(241) + ".100"}, {a(242), 100, a(241) + ".100"}, {a(242), 999, a(241) + ".999"},
		{a(240), 1000, a(240) + ".1000"}, {a(241), 1000, a(240) + ".1000"}, {a(255), 1000, a(240) + ".1000"},
		{a(225), math.MaxInt, a(225) + ".9223372036854775807"}, {a(226), math.MaxInt, a(225) + ".9223372036854775807"}, {a(5000), math.MaxInt, a(225) + ".9223372036854775807"},
		// It is the end that goes.
		{a(100) + strings.Repeat("b", 145) + "c", 1, a(100) + strings.Repeat("b", 145)}, {a(242) + "bcd", 2, a(242) + "b.2"}, {a(242) + "bcd", 10, a(242) + ".10"},
		// A number of the base is text like any other.
		{a(243) + ".2", 1, a(243) + ".2"}, {a(243) + ".2", 2, a(243) + ".2"}, {a(243) + ".2", 3, a(243) + ".3"}, {a(242) + ".2", 2, a(242) + "..2"}, {a(241) + ".2", 2, a(241) + ".2.2"},
		// Bytes, not characters.
		{strings.Repeat("é", 122), 1, strings.Repeat("é", 122)}, {strings.Repeat("é", 123), 1, strings.Repeat("é", 122) + "\xc3"}, {strings.Repeat("é", 123), 2, strings.Repeat("é", 121) + "\xc3.2"}, {strings.Repeat("é", 123), 10, strings.Repeat("é", 121) + ".10"},
		{strings.Repeat("日", 82), 1, strings.Repeat("日", 81) + "\xe6\x97"}, {strings.Repeat("日", 82), 2, strings.Repeat("日", 81) + ".2"}, {strings.Repeat("日", 82), 10, strings.Repeat("日", 80) + "\xe6\x97.10"}, {strings.Repeat("日", 82), 100, strings.Repeat("日", 80) + "\xe6.100"},
		{strings.Repeat("\xff", 246), 2, strings.Repeat("\xff", 243) + ".2"},
	} {
		if got := fresh.Nth(c.base, c.n); got != c.want {
			t.Errorf("Nth(%.20q, %d), of %d bytes, = %.300q, want %.300q", c.base, c.n, len(c.base), got, c.want)
		}
		tried(t, c.base, c.n)
	}
}

// P9.1: Nth of each base with numbers of all kinds.
func TestNthAll(t *testing.T) {
	for _, base := range bases() {
		for _, n := range numbers() {
			tried(t, base, n)
		}
	}
	for n := range 20000 {
		tried(t, "a", n)
		tried(t, a(245), n)
	}
}

// P9.1: characters of several bytes, cut at each of their places.
func TestNthCharacters(t *testing.T) {
	for _, s := range []string{"é", "日", "😀", "e\u0301", "\xff", "a.2"} {
		for ahead := range 8 {
			for count := 215 / len(s); count*len(s) <= 270; count++ {
				for _, n := range []int{0, 1, 2, 9, 10, 99, 100, 999, 1000, 10000, math.MaxInt} {
					tried(t, a(ahead)+strings.Repeat(s, count), n)
				}
			}
		}
	}
}

// P9.1: all that Names yields, in its order, whoever ranges over it and how often.
func TestNames(t *testing.T) {
	for _, base := range bases() {
		yielded(t, base)
	}
	names := fresh.Names("a")
	for range 3 {
		if got := slices.Collect(names); !slices.Equal(got, wantNames("a")) {
			t.Errorf("Names, ranged over again, yields %d names, %.300q", len(got), got)
		}
	}
	n := 0
	for s := range fresh.Names("b") {
		if n++; s != "b" && s != "b."+strconv.Itoa(n) {
			t.Errorf("Names yields %q in place %d", s, n)
		}
	}
	if n != tries {
		t.Errorf("Names yields %d names, want %d", n, tries)
	}
}

// P9.1: a consumer that stops after so many names gets these, and is not asked again.
func TestNamesStop(t *testing.T) {
	for _, base := range []string{"", "a", "a.2", a(245), a(300)} {
		want := wantNames(base)
		for stop := 1; stop <= tries; stop++ {
			var got []string
			fresh.Names(base)(func(s string) bool {
				got = append(got, s)
				return len(got) < stop
			})
			if !slices.Equal(got, want[:stop]) {
				t.Fatalf("Names(%.60q), stopped after %d names, yields %d, %.300q", base, stop, len(got), got)
			}
		}
	}
}

// P9.1: leaving the loop, and ranging over the names within ranging over them.
func TestNamesWithin(t *testing.T) {
	names := fresh.Names("a")
	for range 3 {
		for s := range names {
			if s != "a" {
				t.Errorf("Names begins with %q", s)
			}
			break
		}
	}
	want := wantNames("a")
	i := 0
	for s := range names {
		j := 0
		for within := range names {
			if within != want[j] {
				t.Fatalf("Names within Names yields %q in place %d", within, j)
			}
			if j++; j > i%5 {
				break
			}
		}
		if s != want[i] {
			t.Fatalf("Names around Names yields %q in place %d", s, i)
		}
		i++
	}
	if i != tries {
		t.Errorf("Names around Names yields %d names", i)
	}
}

// P9.1: what Free answers.
func TestFree(t *testing.T) {
	for _, c := range []struct {
		base  string
		taken []string
		want  string
	}{
		{"a", nil, "a"}, {"a", []string{}, "a"}, {"a", []string{""}, "a"}, {"a", []string{"a"}, "a.2"}, {"a", []string{"a", "a.2"}, "a.3"}, {"a", []string{"a.2", "a"}, "a.3"}, {"a", []string{"a.3", "a", "a.2"}, "a.4"},
		// Some in the middle.
		{"a", []string{"a.2"}, "a"}, {"a", []string{"a.2", "a.3"}, "a"}, {"a", []string{"a", "a.3"}, "a.2"}, {"a", []string{"a", "a.2", "a.4", "a.5"}, "a.3"}, {"a", []string{"a.1000"}, "a"},
		// Several times.
		{"a", []string{"a", "a"}, "a.2"}, {"a", []string{"a", "a", "a.2", "a.2", "a"}, "a.3"}, {"a", []string{"a.2", "a.2"}, "a"},
		// Others.
		{"a", []string{"b", "A", "aa", "a.", ".a", "a/", "a ", "a\x00"}, "a"}, {"a", []string{"a", "a.1", "a.02", "a.0", "a.-2", "a.+2", "a.2.", "a.2.2", "a 2", "a2", "a.２", "b.2", ".2", "a.2 ", "A.2"}, "a.2"},
		{"a", []string{"a.1"}, "a"}, {"a", []string{"a", "a.10", "a.20"}, "a.2"}, {"a.2", []string{"a", "a.2", "a.3"}, "a.2.2"}, {"a.2", []string{"a.2", "a.2.2"}, "a.2.3"},
		// The empty base, and bases that are no names.
		{"", nil, ""}, {"", []string{""}, ".2"}, {"", []string{"", ".2", ".4"}, ".3"}, {"", []string{"a", ".2"}, ""}, {".", []string{"."}, "..2"}, {"a/b", []string{"a/b"}, "a/b.2"}, {"\x00", []string{"\x00"}, "\x00.2"}, {"\xff", []string{"\xff", "\ufffd.2"}, "\xff.2"},
		// What is cut.
		{a(246), nil, a(245)}, {a(246), []string{a(246)}, a(245)}, {a(246), []string{a(245)}, a(243) + ".2"}, {a(245), []string{a(245), a(243) + ".2"}, a(243) + ".3"}, {a(245), []string{a(245), a(245) + ".2"}, a(243) + ".2"}, {a(244), []string{a(244), a(244) + ".2"}, a(243) + ".2"},
		{a(243) + ".2", []string{a(243) + ".2"}, a(243) + ".3"},
	} {
		if got, ok := fresh.Free(c.base, c.taken...); got != c.want || !ok {
			t.Errorf("Free(%.20q, %.90q), of %d bytes, = %.300q, %t, want %.300q", c.base, c.taken, len(c.base), got, ok, c.want)
		}
		found(t, c.base, c.taken)
	}
}

// P9.1: the first ones taken, however many, all of them, and all but one, in several orders.
func TestFreeRuns(t *testing.T) {
	for _, base := range []string{"a", "", a(241), a(245), a(400), a(243) + ".2"} {
		all := wantNames(base)
		for k := 0; k <= tries; k += 1 + k/9 {
			found(t, base, all[:k])
			found(t, base, all[k:])
		}
		for _, k := range []int{0, 1, 2, 8, 9, 10, 98, 99, 500, 998, 999} {
			but := slices.Delete(slices.Clone(all), k, k+1)
			found(t, base, but)
			found(t, base, append(but, but...))
			slices.Reverse(but)
			found(t, base, but)
			found(t, base, append([]string{"x", ""}, but...))
		}
		twice := append(slices.Clone(all), all...)
		slices.Sort(twice)
		for _, l := range [][]string{all, twice, append(slices.Clone(all), "x"), append([]string{"x"}, all...)} {
			found(t, base, l)
			if got, ok := fresh.Free(base, l...); got != "" || ok {
				t.Errorf("Free(%.60q) of %d names that hold all = %.300q, %t", base, len(l), got, ok)
			}
		}
	}
	if got, ok := fresh.Free("a", wantNames("a")[:tries-1]...); got != "a.1000" || !ok {
		t.Errorf("Free with all but the last one taken = %q, %t", got, ok)
	}
}

// P9.1: Free of all short lists.
func TestFreeLists(t *testing.T) {
	of := []string{"", "a", "a.2", "a.3", "a.1", "a.2.2", "a.02", ".2", "b"}
	for _, l := range lists(4, of) {
		for _, base := range []string{"a", "", "a.2", "b"} {
			found(t, base, l)
		}
	}
}

// P9.1: names that are reserved one after the other, until none is left.
func TestFreeGrows(t *testing.T) {
	for _, base := range []string{"a", "é.txt", a(245)} {
		var l []string
		for n := range tries {
			got, ok := fresh.Free(base, l...)
			if want := wantNth(base, n+1); got != want || !ok {
				t.Fatalf("Free(%.60q) after %d names = %.300q, %t, want %.300q", base, n, got, ok, want)
			}
			l = append([]string{got}, l...)
		}
		found(t, base, l)
	}
}

// P9.1, R1: long lists, and long texts.
func TestFreeLong(t *testing.T) {
	l := make([]string, 200000)
	for i := range l {
		l[i] = "a." + strconv.Itoa(i*7919%200003)
	}
	found(t, "a", l)
	found(t, "a", append(l, "a"))
	found(t, "b", l)
	for _, s := range []string{"a", ".", ".2", "\x00", "\xff", "/", "é"} {
		long := strings.Repeat(s, 1<<18)
		for _, n := range []int{math.MinInt, 0, 1, 2, 1000, math.MaxInt} {
			tried(t, long, n)
		}
		yielded(t, long)
		found(t, long, []string{long, long[:245], long + ".2", long[:243] + ".2"})
		found(t, "a", []string{long, "a", long})
	}
}

// P9.2: no name twice, but for the first one, where it fills the room and ends in a number that is tried.
func TestNamesOnce(t *testing.T) {
	times := func(base string) map[string]int {
		l := map[string]int{}
		for s := range fresh.Names(base) {
			l[s]++
		}
		return l
	}
	once := append(bases(), "a.2", "a.1000", ".2", a(200)+".3", a(243)+".1", a(243)+".0", a(242)+".02", a(240)+".1001", a(241)+".2", a(242)+".2", a(243)+"-2", a(243)+".x", a(244)+".2")
	for _, base := range once {
		if l := times(base); len(l) != tries {
			t.Errorf("Names(%.300q) yields %d names that differ", base, len(l))
		}
	}
	for n := 2; n <= tries; n++ {
		end := "." + strconv.Itoa(n)
		first := a(room-len(end)) + end
		for _, base := range []string{first, first + "x"} {
			l := times(base)
			if len(l) != tries-1 || l[first] != 2 {
				t.Errorf("Names(%.300q) yields %d names that differ, the first one %d times", base, len(l), l[first])
			}
			if got, ok := fresh.Free(base, first); got == first || !ok {
				t.Errorf("Free(%.300q), with its first name taken, = %.300q, %t", base, got, ok)
			}
		}
	}
}

// P9.1, P9.2, beyond the inputs above.
func FuzzFresh(f *testing.F) {
	for _, s := range []string{"", "a", ".", "a.2", "a/b", "\xff", "é", a(243) + ".2", a(246)} {
		f.Add(s, "a", 1)
		f.Add(s, s, 2)
		f.Add("a", s+".2", 1000)
		f.Add(s, s+".3", -1)
	}
	f.Fuzz(func(t *testing.T, base, s string, n int) {
		long := strings.Repeat(base+".", 40) + s
		for _, b := range []string{base, s, base + s, long} {
			tried(t, b, n)
			tried(t, b, n%2000)
			found(t, b, nil)
			found(t, b, []string{s, base, wantNth(b, 1), wantNth(b, 3), b})
			found(t, b, []string{s, wantNth(b, 2), wantNth(b, n%5), base, wantNth(b, 1)})
		}
		yielded(t, long)
	})
}
