package name_test

import (
	"slices"
	"strings"
	"testing"

	"ragpicker/api"
	"ragpicker/name"
)

// short calls f with every string of at most most bytes out of those on which the promises turn.
func short(most int, f func(s string)) {
	var grow func(s string)
	grow = func(s string) {
		f(s)
		if len(s) == most {
			return
		}
		for _, b := range []byte("/.a\x00\xff") {
			grow(s + string([]byte{b}))
		}
	}
	grow("")
}

// long are strings around both limits, without and with faults beside their length.
func long() []string {
	var l []string
	for _, n := range []int{254, 255, 256, 257, 4094, 4095, 4096, 4097, 4098, 100000} {
		a := strings.Repeat("a", n-2)
		l = append(l, a+"aa", "/a"+a, a+"a/", a+"/a", a+"a\x00", "\x00a"+a, "/\x00"+a, "/"+a+"\x00", a+"..", a+"/.", "./"+a,
			strings.Repeat(".", n), strings.Repeat("/", n), strings.Repeat("\x00", n), strings.Repeat("\xff", n),
			strings.Repeat("ab/", n)[:n], "/"+strings.Repeat("./", n)[:n-1], "/"+strings.Repeat("../", n)[:n-1])
	}
	return l
}

// P2.1: what Check answers, and in which order where several faults meet.
func TestCheck(t *testing.T) {
	for _, c := range []struct {
		s    string
		want api.Errno
	}{
		{"a", api.OK}, {"abc", api.OK}, {" ", api.OK}, {"a b", api.OK}, {"\n", api.OK}, {"\\", api.OK}, {"~", api.OK}, {"-", api.OK},
		{"...", api.OK}, {"....", api.OK}, {".a", api.OK}, {"..a", api.OK}, {"a.", api.OK}, {"a..", api.OK}, {". ", api.OK}, {" .", api.OK}, {".Trash", api.OK},
		{"\x01", api.OK}, {"\x7f", api.OK}, {"\xff", api.OK}, {"\xc0\xaf", api.OK}, {"é", api.OK}, {"／", api.OK}, {"․", api.OK}, {"\ufffd", api.OK},
		{"", api.ErrArg}, {".", api.ErrArg}, {"..", api.ErrArg},
		{"/", api.ErrArg}, {"//", api.ErrArg}, {"/a", api.ErrArg}, {"a/", api.ErrArg}, {"a/b", api.ErrArg}, {"./", api.ErrArg}, {"../", api.ErrArg}, {"/.", api.ErrArg},
		{"\x00", api.ErrArg}, {"\x00a", api.ErrArg}, {"a\x00", api.ErrArg}, {"a\x00b", api.ErrArg}, {".\x00", api.ErrArg}, {"\xff\x00", api.ErrArg}, {"\xff/", api.ErrArg},
		{strings.Repeat("a", 254), api.OK}, {strings.Repeat("a", 255), api.OK}, {strings.Repeat("a", 256), api.ErrName}, {strings.Repeat("a", 257), api.ErrName},
		{strings.Repeat("a", 4096), api.ErrName}, {strings.Repeat("a", 1<<20), api.ErrName},
		{strings.Repeat(".", 255), api.OK}, {strings.Repeat(".", 256), api.ErrName},
		{strings.Repeat("\xff", 255), api.OK}, {strings.Repeat("\xff", 256), api.ErrName},
		{strings.Repeat("é", 127) + "a", api.OK}, {strings.Repeat("é", 128), api.ErrName}, {strings.Repeat("é", 255), api.ErrName},
		{strings.Repeat("a", 254) + "/", api.ErrArg}, {strings.Repeat("a", 255) + "/", api.ErrArg}, {"/" + strings.Repeat("a", 256), api.ErrArg},
		{strings.Repeat("a", 254) + "\x00", api.ErrArg}, {strings.Repeat("a", 255) + "\x00", api.ErrArg}, {"\x00" + strings.Repeat("a", 256), api.ErrArg},
		{strings.Repeat("a", 300) + "/" + strings.Repeat("a", 300), api.ErrArg}, {strings.Repeat("a", 300) + "\x00" + strings.Repeat("a", 300), api.ErrArg},
	} {
		if got := name.Check(c.s); got != c.want {
			t.Errorf("Check(%.20q), %d bytes, = %d, want %d", c.s, len(c.s), got, c.want)
		}
	}
}

// P2.1: what Path answers, and in which order where several faults meet.
func TestPath(t *testing.T) {
	for _, c := range []struct {
		s    string
		want api.Errno
	}{
		{"/", api.OK}, {"//", api.OK}, {"///", api.OK}, {"/a", api.OK}, {"/a/", api.OK}, {"/a//b/./../c", api.OK}, {"/.", api.OK}, {"/..", api.OK},
		{"/\xff", api.OK}, {"/ ", api.OK}, {"/\n", api.OK}, {"/\x01", api.OK}, {"/é", api.OK},
		{"", api.ErrNone},
		{"a", api.ErrArg}, {".", api.ErrArg}, {"..", api.ErrArg}, {"./a", api.ErrArg}, {"a/b", api.ErrArg}, {" /a", api.ErrArg}, {"\\a", api.ErrArg}, {"／a", api.ErrArg}, {"~/a", api.ErrArg}, {"\xff/", api.ErrArg},
		{"\x00", api.ErrArg}, {"\x00/", api.ErrArg}, {"/\x00", api.ErrArg}, {"/a\x00", api.ErrArg}, {"/a\x00b/c", api.ErrArg}, {"/\xff\x00", api.ErrArg},
		{"/" + strings.Repeat("a", 255), api.OK}, {"/" + strings.Repeat("a", 256), api.OK}, {"/" + strings.Repeat("a", 4094), api.OK},
		{"/" + strings.Repeat("a", 4095), api.OK}, {"/" + strings.Repeat("a", 4096), api.ErrName}, {"/" + strings.Repeat("a", 4097), api.ErrName}, {"/" + strings.Repeat("a", 1<<20), api.ErrName},
		{strings.Repeat("/", 4096), api.OK}, {strings.Repeat("/", 4097), api.ErrName},
		{strings.Repeat("/a", 2048), api.OK}, {strings.Repeat("/a", 2048) + "/", api.ErrName},
		{"/a" + strings.Repeat("é", 2047), api.OK}, {"/" + strings.Repeat("é", 2048), api.ErrName}, {"/" + strings.Repeat("é", 4095), api.ErrName},
		{strings.Repeat("a", 4096), api.ErrArg}, {strings.Repeat("a", 4097), api.ErrArg}, {strings.Repeat("a/", 3000), api.ErrArg},
		{"/" + strings.Repeat("a", 4095) + "\x00", api.ErrArg}, {"/\x00" + strings.Repeat("a", 4096), api.ErrArg}, {"/" + strings.Repeat("a", 9000) + "\x00", api.ErrArg},
	} {
		if got := name.Path(c.s); got != c.want {
			t.Errorf("Path(%.20q), %d bytes, = %d, want %d", c.s, len(c.s), got, c.want)
		}
	}
}

// wantCheck is Check told byte by byte.
func wantCheck(s string) api.Errno {
	for i := 0; i < len(s); i++ {
		if s[i] == '/' || s[i] == 0 {
			return api.ErrArg
		}
	}
	if s == "" || s == "." || s == ".." {
		return api.ErrArg
	}
	if len(s) >= 256 {
		return api.ErrName
	}
	return api.OK
}

// wantPath is Path told byte by byte.
func wantPath(s string) api.Errno {
	if len(s) == 0 {
		return api.ErrNone
	}
	for i := 0; i < len(s); i++ {
		if s[i] == 0 {
			return api.ErrArg
		}
	}
	if s[0] != '/' {
		return api.ErrArg
	}
	if len(s) >= 4097 {
		return api.ErrName
	}
	return api.OK
}

// wantParts, wantSlash and wantLast are told from all components at once.
func wantParts(s string) []string {
	return slices.DeleteFunc(strings.Split(s, "/"), func(c string) bool { return c == "" || c == "." })
}

func wantSlash(s string) bool {
	l := strings.Split(s, "/")
	return slices.Contains([]string{"", ".", ".."}, l[len(l)-1])
}

func wantLast(s string) string {
	l := strings.Split(s, "/")
	for len(l) > 0 && l[len(l)-1] == "" {
		l = l[:len(l)-1]
	}
	if len(l) == 0 || l[len(l)-1] == "." || l[len(l)-1] == ".." {
		return ""
	}
	return l[len(l)-1]
}

// held holds every function's answer for s against what the promises say of it.
func held(t *testing.T, s string) {
	if got, want := name.Check(s), wantCheck(s); got != want {
		t.Errorf("Check(%.20q), %d bytes, = %d, want %d", s, len(s), got, want)
	}
	if got, want := name.Path(s), wantPath(s); got != want {
		t.Errorf("Path(%.20q), %d bytes, = %d, want %d", s, len(s), got, want)
	}
	if got, want := slices.Collect(name.Parts(s)), wantParts(s); !slices.Equal(got, want) {
		t.Errorf("Parts(%.20q), %d bytes, yields %.40q, want %.40q", s, len(s), got, want)
	}
	if got, want := name.Slash(s), wantSlash(s); got != want {
		t.Errorf("Slash(%.20q), %d bytes, = %t, want %t", s, len(s), got, want)
	}
	if got, want := name.Last(s), wantLast(s); got != want {
		t.Errorf("Last(%.20q), %d bytes, = %.20q, want %.20q", s, len(s), got, want)
	}
}

// P2.1, P2.2: all functions on all short strings, and on long ones.
func TestAll(t *testing.T) {
	short(6, func(s string) { held(t, s) })
	for _, s := range long() {
		held(t, s)
	}
}

// P2.2: Parts.
func TestParts(t *testing.T) {
	big := strings.Repeat("a", 5000)
	for _, c := range []struct {
		s    string
		want []string
	}{
		{"/a//./b/..", []string{"a", "b", ".."}},
		{"", nil}, {"/", nil}, {"//", nil}, {"////", nil}, {".", nil}, {"./", nil}, {"/.", nil}, {"./.", nil}, {"/././", nil},
		{"..", []string{".."}}, {"/..", []string{".."}}, {"../", []string{".."}}, {"/../..", []string{"..", ".."}},
		{"a", []string{"a"}}, {"/a", []string{"a"}}, {"a/", []string{"a"}}, {"//a//", []string{"a"}}, {"a/b", []string{"a", "b"}}, {"/a/a/a", []string{"a", "a", "a"}},
		{"./a/../b", []string{"a", "..", "b"}}, {"/b/a/c", []string{"b", "a", "c"}},
		{"...", []string{"..."}}, {"/.../.a/a./..a/a..", []string{"...", ".a", "a.", "..a", "a.."}},
		{"\x00", []string{"\x00"}}, {"/a\x00b/\x00", []string{"a\x00b", "\x00"}}, {"/.\x00/..\x00", []string{".\x00", "..\x00"}},
		{"\xff/\xfe", []string{"\xff", "\xfe"}}, {"/ / /\n", []string{" ", " ", "\n"}}, {"a／b\\c", []string{"a／b\\c"}},
		{"/" + big + "/b", []string{big, "b"}},
		{strings.Repeat("/", 1<<20), nil}, {strings.Repeat("/.", 1<<20), nil}, {strings.Repeat("/", 1<<20) + "a", []string{"a"}},
	} {
		if got := slices.Collect(name.Parts(c.s)); !slices.Equal(got, c.want) {
			t.Errorf("Parts(%.20q) yields %.40q, want %.40q", c.s, got, c.want)
		}
	}
	if got := slices.Collect(name.Parts(strings.Repeat("a//", 1<<18))); len(got) != 1<<18 {
		t.Errorf("%d components, want %d", len(got), 1<<18)
	}
}

// P2.2: a consumer of Parts that stops is asked for nothing any more.
func TestPartsStopped(t *testing.T) {
	for _, s := range []string{"/a//./b/..", "a", "a/", "/../b/c/.", "a/./", "/a/b/c/d/e"} {
		all := wantParts(s)
		for stop := 1; stop <= len(all); stop++ {
			var got []string
			name.Parts(s)(func(p string) bool {
				got = append(got, p)
				return len(got) < stop
			})
			if !slices.Equal(got, all[:stop]) {
				t.Errorf("Parts(%q), stopped at %d, yields %q", s, stop, got)
			}
		}
	}
	for p := range name.Parts("a/b/c") {
		if p == "b" {
			break
		}
		if p != "a" {
			t.Errorf("%q", p)
		}
	}
}

// P2.2: what Parts returns may be ranged over again, after a stop and inside another range.
func TestPartsAgain(t *testing.T) {
	parts := name.Parts("/a/./b/..")
	want := []string{"a", "b", ".."}
	for p := range parts {
		if p == "b" {
			break
		}
	}
	n := 0
	for p := range parts {
		if n >= len(want) || p != want[n] {
			t.Fatalf("component %d is %q", n, p)
		}
		if got := slices.Collect(parts); !slices.Equal(got, want) {
			t.Errorf("inside: %q", got)
		}
		n++
	}
	if n != len(want) {
		t.Errorf("%d components", n)
	}
}

// P2.2: Slash and Last.
func TestSlashLast(t *testing.T) {
	for _, c := range []struct {
		s     string
		slash bool
		last  string
	}{
		{"", true, ""}, {"/", true, ""}, {"//", true, ""}, {"///", true, ""},
		{".", true, ""}, {"..", true, ""}, {"/.", true, ""}, {"/..", true, ""}, {"./", true, ""}, {"../", true, ""}, {"/.//", true, ""}, {"/..//", true, ""},
		{"a", false, "a"}, {"/a", false, "a"}, {"//a", false, "a"}, {"a/b", false, "b"}, {"/a/b", false, "b"}, {"/a//b", false, "b"}, {"../a", false, "a"}, {"./a", false, "a"},
		{"a/", true, "a"}, {"/a/", true, "a"}, {"/a///", true, "a"}, {"/a/b/", true, "b"}, {"/a/b//", true, "b"},
		{"a/.", true, ""}, {"/a/.", true, ""}, {"/a/..", true, ""}, {"/a/./", true, ""}, {"/a/../", true, ""}, {"/a/..///", true, ""},
		{"...", false, "..."}, {"/...", false, "..."}, {"/.../", true, "..."}, {"/.a", false, ".a"}, {"/..a", false, "..a"}, {"/a.", false, "a."}, {"/a..", false, "a.."}, {"/a../", true, "a.."},
		{"\x00", false, "\x00"}, {"/a/\x00", false, "\x00"}, {"/.\x00", false, ".\x00"}, {"/..\x00/", true, "..\x00"},
		{"\xff", false, "\xff"}, {"/\xff/", true, "\xff"}, {"/ ", false, " "}, {"/. ", false, ". "}, {"a\\", false, "a\\"},
		{strings.Repeat("a", 5000), false, strings.Repeat("a", 5000)}, {"/" + strings.Repeat("a", 5000) + "/", true, strings.Repeat("a", 5000)},
		{strings.Repeat("/", 1<<20), true, ""}, {"a" + strings.Repeat("/", 1<<20), true, "a"}, {strings.Repeat("/", 1<<20) + "a", false, "a"},
	} {
		if got := name.Slash(c.s); got != c.slash {
			t.Errorf("Slash(%.20q) = %t, want %t", c.s, got, c.slash)
		}
		if got := name.Last(c.s); got != c.last {
			t.Errorf("Last(%.20q) = %.20q, want %.20q", c.s, got, c.last)
		}
	}
}

// P2.3: which of the components that Parts yields are names.
func TestPartsAreNames(t *testing.T) {
	all := long()
	short(5, func(s string) { all = append(all, s) })
	for _, n := range []int{1, 254, 255, 256, 4096} {
		a := strings.Repeat("a", n)
		all = append(all, a+"/"+a+"\x00/../"+a, "/../"+a+"//./b")
	}
	for _, s := range all {
		for p := range name.Parts(s) {
			want := api.OK
			switch {
			case p == ".." || strings.Contains(p, "\x00"):
				want = api.ErrArg
			case len(p) > api.MaxName:
				want = api.ErrName
			}
			if got := name.Check(p); got != want {
				t.Errorf("Parts(%.20q) yields %.20q, %d bytes, of which Check tells %d, want %d", s, p, len(p), got, want)
			}
		}
	}
}

func FuzzName(f *testing.F) {
	for _, s := range []string{"", ".", "..", "/", "/a//./b/..", "a\x00b", "/\xff/"} {
		f.Add(s)
	}
	f.Fuzz(func(t *testing.T, s string) { held(t, s) })
}
