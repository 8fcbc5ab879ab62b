package track_test

import (
	"path"
	"slices"
	"strings"
	"testing"

	"ragpicker/track"
)

// short are all strings of at most most bytes out of those that are given.
func short(most int, bytes string) []string {
	l := []string{""}
	for from := 0; most > 0; most-- {
		to := len(l)
		for _, s := range l[from:to] {
			for i := range len(bytes) {
				l = append(l, s+bytes[i:i+1])
			}
		}
		from = to
	}
	return l
}

// woven are all strings of at most most pieces, of which every component comes again and again.
func woven(most int) []string {
	l := []string{""}
	for from := 0; most > 0; most-- {
		to := len(l)
		for _, s := range l[from:to] {
			for _, piece := range []string{"/", "a/", "b", "./", "../", ".."} {
				l = append(l, s+piece)
			}
		}
		from = to
	}
	return l
}

// long are strings far beyond the limits of names and paths, which bind no function of track.
func long() []string {
	n := 1 << 12
	return []string{
		strings.Repeat("/", n), strings.Repeat("/", n) + "a", "a" + strings.Repeat("/", n), strings.Repeat("./", n), "/" + strings.Repeat("./", n) + "a",
		strings.Repeat("../", n), "/" + strings.Repeat("../", n), strings.Repeat("a/", n), "/" + strings.Repeat("a/", n), "/" + strings.Repeat("a/../", n),
		strings.Repeat("a/", n) + strings.Repeat("../", n), strings.Repeat("a/", n) + strings.Repeat("../", n+1), strings.Repeat("a/", n+1) + strings.Repeat("../", n),
		"/" + strings.Repeat("a/", n) + strings.Repeat("../", n), "/" + strings.Repeat("a/", n) + strings.Repeat("../", n+1) + "b",
		strings.Repeat("a", n), "/" + strings.Repeat("a", n), strings.Repeat("a", n) + "/" + strings.Repeat(".", n), strings.Repeat("\x00", n), "/" + strings.Repeat("\xff", n) + "/..",
	}
}

// P3.1: Clean.
func TestClean(t *testing.T) {
	for _, c := range []struct{ s, want string }{
		{"/a/../../b/.", "/b"}, {"a/../..", ".."},
		{"", "."}, {".", "."}, {"./", "."}, {"./.", "."}, {".//./", "."}, {"a/..", "."}, {"a/../", "."}, {"a/b/../..", "."}, {"./a/..", "."}, {"a/../b/..", "."},
		{"/", "/"}, {"//", "/"}, {"///", "/"}, {"/.", "/"}, {"/./", "/"}, {"/././.", "/"}, {"/a/..", "/"}, {"/a/b/../..", "/"}, {"//a//..//", "/"},
		{"..", ".."}, {"../", ".."}, {"./..", ".."}, {"../.", ".."}, {"../..", "../.."}, {"../../..", "../../.."}, {".././../", "../.."},
		{"../a", "../a"}, {"../../a", "../../a"}, {"../a/..", ".."}, {"../a/../..", "../.."}, {"a/../../b", "../b"}, {"a/../../b/../..", "../.."}, {"a/b/../../../../c", "../../c"},
		{"/..", "/"}, {"/../", "/"}, {"/../..", "/"}, {"/../a", "/a"}, {"/../../a/b", "/a/b"}, {"/a/../..", "/"}, {"/a/../../..", "/"}, {"/a/../../b", "/b"}, {"/a/b/../../../c", "/c"}, {"//../a", "/a"},
		{"a", "a"}, {"a/", "a"}, {"a//", "a"}, {"./a", "a"}, {"a/.", "a"}, {"a/b", "a/b"}, {"a//b", "a/b"}, {"a/./b", "a/b"}, {"a/b/..", "a"}, {"a/../b", "b"}, {"a/b/../c", "a/c"}, {"a/b/c/../../d", "a/d"},
		{"/a", "/a"}, {"//a", "/a"}, {"///a", "/a"}, {"/a/", "/a"}, {"/a///", "/a"}, {"/a/b", "/a/b"}, {"/a//b", "/a/b"}, {"/a/./b/.", "/a/b"}, {"/a/b/..", "/a"}, {"/a/b/../c", "/a/c"}, {"/b/a/c", "/b/a/c"}, {"/a/a/a", "/a/a/a"}, {"/a/a/..", "/a"},
		{"...", "..."}, {"/...", "/..."}, {"/.../..", "/"}, {"a/...", "a/..."}, {".a", ".a"}, {"..a", "..a"}, {"a..", "a.."}, {"a./..b", "a./..b"}, {"..a/..", "."}, {".. /a", ".. /a"}, {"x/.. ", "x/.. "}, {".../../..", ".."},
		{"\x00", "\x00"}, {"/\x00/..", "/"}, {"a\x00/../b", "b"}, {"..\x00", "..\x00"}, {".\x00/a", ".\x00/a"}, {"\xff//\xfe", "\xff/\xfe"}, {" ", " "}, {"/ / ", "/ / "}, {"\\a\\..", "\\a\\.."}, {"~/a", "~/a"}, {"a／../b", "a／../b"}, {"é/../è/.", "è"},
	} {
		if got := track.Clean(c.s); got != c.want {
			t.Errorf("Clean(%q) = %q, want %q", c.s, got, c.want)
		}
	}
}

// P3.1: Join.
func TestJoin(t *testing.T) {
	for _, c := range []struct{ a, b, want string }{
		{"/a", "../b", "/b"}, {"/a", "b", "/a/b"}, {"/a/", "b", "/a/b"}, {"/a//", "b/", "/a/b"}, {"/a", "b/c", "/a/b/c"}, {"/", "a", "/a"}, {"//", "a", "/a"}, {"a", "b", "a/b"}, {".", "a", "a"}, {"..", "a", "../a"}, {"a", "../..", ".."}, {"/a", "../..", "/"}, {"/a/../b", "./c", "/b/c"},
		{"", "", "."}, {"", "a", "a"}, {"", "a/../b/", "b"}, {"", "..", ".."}, {"", ".", "."}, {"", "../a", "../a"}, {"", "a/../..", ".."},
		{"", "/", "/"}, {"", "/a", "/a"}, {"", "//a/..", "/"}, {"", "/../a", "/a"},
		{"/a", "/b", "/b"}, {"a", "/b", "/b"}, {"/a", "/", "/"}, {"/a", "//b", "/b"}, {"/a", "/../b/.", "/b"}, {".", "/b", "/b"}, {"..", "/b", "/b"}, {"/", "/b", "/b"}, {"a", "/b/", "/b"},
		{"a", "", "a"}, {"/a", "", "/a"}, {"/a/", "", "/a"}, {"/", "", "/"}, {".", "", "."}, {"..", "", ".."}, {"/a", ".", "/a"}, {"/a", "..", "/"}, {"a", "..", "."}, {"a", ".", "a"}, {"/", "..", "/"}, {"..", "..", "../.."}, {"/", ".", "/"},
		{"a\x00", "b\xff", "a\x00/b\xff"}, {" ", " ", " / "},
	} {
		if got := track.Join(c.a, c.b); got != c.want {
			t.Errorf("Join(%q, %q) = %q, want %q", c.a, c.b, got, c.want)
		}
	}
}

// P3.2: Inside.
func TestInside(t *testing.T) {
	for _, c := range []struct {
		base, s string
		want    bool
	}{
		{"/a", "/a", true}, {"/a", "/a/b", true}, {"/a", "/a/b/c", true}, {"/a", "/a/", true}, {"/a", "/a//", true}, {"/a/b", "/a/b/c", true}, {"a", "a", true}, {"a", "a/b", true}, {".", ".", true}, {".", "./a", true}, {"..", "../a", true},
		{"/a", "/ab", false}, {"/a", "/a.", false}, {"/a", "/a\x00", false}, {"/a", "/ab/c", false}, {"a", "ab", false}, {"/a", "/", false}, {"/a/b", "/a", false}, {"/a/b", "/a/", false}, {"/a/b", "/a/bc", false}, {"/a", "/b", false}, {"/a", "/A/b", false}, {"/a", "a", false}, {"a", "/a", false}, {"/a", "/b/a", false}, {"/a", "", false}, {"/a", "//a", false}, {"/a", "//a/b", false},
		{"/", "/", true}, {"/", "/a", true}, {"/", "/a/b", true}, {"/", "//", true}, {"/", "", false}, {"/", "a", false}, {"/", ".", false}, {"/", "a/b", false},
		{"//", "/", true}, {"//", "//", true}, {"//", "/a", true}, {"///", "/a/b", true}, {"//", "a", false}, {"//", "", false},
		{"/a/", "/a/", true}, {"/a/", "/a", false}, {"/a/", "/a/b", true}, {"/a//", "/a/b", true}, {"/a///", "/a/", true}, {"/a//", "/a", false}, {"/a/", "/ab", false}, {"/a//", "/ab/c", false}, {"a/", "a/b", true}, {"a/", "a", false}, {"a/", "ab", false},
		{"", "", true}, {"", "/", true}, {"", "/a", true}, {"", "a", false}, {"", ".", false}, {"", "a/b", false},
		{".", "a", false}, {".", "..", false}, {".", "", false}, {"..", "..a", false}, {"./a", "a", false}, {"/a/.", "/a", false}, {"/a", "/a/../b", true}, {"/a/../b", "/b", false}, {"/a//b", "/a/b", false}, {"/a//b", "/a//b/c", true},
		{"\xff", "\xff/\x00", true}, {"\x00", "\x00", true}, {"/é", "/é/è", true}, {"/\xc3", "/é", false},
	} {
		if got := track.Inside(c.base, c.s); got != c.want {
			t.Errorf("Inside(%q, %q) = %t, want %t", c.base, c.s, got, c.want)
		}
	}
}

// P3.2: what Rel tells.
func TestRel(t *testing.T) {
	for _, c := range []struct{ base, s, want string }{
		{"/a", "/a/b/c", "b/c"}, {"/a", "/a/b", "b"}, {"/a/b", "/a/b/c", "c"}, {"/a", "/a/a", "a"}, {"/a/a", "/a/a/a/a", "a/a"},
		{"/", "/", "."}, {"/a", "/a", "."}, {"/a/b", "/a/b", "."}, {"//", "/", "."}, {"/a/", "/a", "."}, {"/a", "/a//", "."}, {"/a/b/..", "/a/.", "."}, {"/..", "/", "."}, {"/a", "/a/b/..", "."}, {"/a/..", "/b/..", "."},
		{"/", "/a", "a"}, {"/", "/a/b", "a/b"}, {"//", "//a/b//", "a/b"}, {"/.", "/a", "a"}, {"/..", "/../a", "a"}, {"/a/..", "/b", "b"},
		{"/a/", "/a/b/", "b"}, {"/a//", "/a//b", "b"}, {"/a", "/b/../a/c", "c"}, {"/a/./", "/a/b/./c/..", "b"}, {"/a", "/a/...", "..."}, {"/a", "/a/..b", "..b"}, {"/a", "/a/.b/c", ".b/c"},
		{"/\xff", "/\xff/\x00", "\x00"}, {"/ ", "/ / ", " "},
	} {
		if got, ok := track.Rel(c.base, c.s); got != c.want || !ok {
			t.Errorf("Rel(%q, %q) = %q, %t, want %q, true", c.base, c.s, got, ok, c.want)
		}
	}
}

// P3.2: of what Rel tells nothing.
func TestRelWrong(t *testing.T) {
	for _, c := range []struct{ base, s string }{
		{"/a", "/ab"}, {"/a", "/ab/c"}, {"/a", "/"}, {"/a", "/b"}, {"/a/b", "/a"}, {"/a/b", "/a/bc"}, {"/a", "/a/.."}, {"/a", "/a/../b"}, {"/a", "/a/../ab"}, {"/a", "/.."}, {"/a/", "/ab"}, {"/a", "/A/b"}, {"/a/b", "/b/a"}, {"/\xc3", "/é"}, {"/a", "/a\x00"},
		{"", ""}, {"", "/"}, {"", "/a"}, {"", "a"}, {"", "."}, {"/", ""}, {"/", "."}, {"/", ".."}, {"/", "a"}, {"/", "a/b"}, {"/a", "a/b"}, {"/a", "a"}, {"/a", ""},
		{"a", "a"}, {"a", "a/b"}, {"a", "/a"}, {"a", "/a/b"}, {"a/", "a/b/c"}, {".", "."}, {".", "a"}, {".", "./a"}, {".", "/"}, {"..", ".."}, {"..", "../a"}, {"../..", "../../a"}, {"./a", "a/b"}, {"a/..", "."}, {"a/../b", "b/c"}, {"\x00", "\x00/a"}, {" /a", " /a/b"},
	} {
		if got, ok := track.Rel(c.base, c.s); got != "" || ok {
			t.Errorf("Rel(%q, %q) = %q, %t, want \"\", false", c.base, c.s, got, ok)
		}
	}
}

// P3.2: Split.
func TestSplit(t *testing.T) {
	for _, c := range []struct{ s, dir, last string }{
		{"/a", "/", "a"}, {"/a/b", "/a", "b"}, {"/a/b/c", "/a/b", "c"}, {"a/b", "a", "b"}, {"a/b/c", "a/b", "c"},
		{"/", "/", ""}, {"//", "/", ""}, {"/.", "/", ""}, {"/..", "/", ""}, {"/a/..", "/", ""}, {"/../..", "/", ""},
		{"", ".", ""}, {".", ".", ""}, {"./", ".", ""}, {"./.", ".", ""}, {"a/..", ".", ""}, {"a/b/../..", ".", ""},
		{"a", ".", "a"}, {"./a", ".", "a"}, {"a/", ".", "a"}, {"a//", ".", "a"}, {"a/.", ".", "a"}, {"a/b/..", ".", "a"}, {"a/../b", ".", "b"}, {"...", ".", "..."}, {".a", ".", ".a"},
		{"..", ".", ".."}, {"../", ".", ".."}, {"a/../..", ".", ".."}, {"../..", "..", ".."}, {"../../..", "../..", ".."}, {"../a", "..", "a"}, {"../a/b", "../a", "b"}, {"a/../../b", "..", "b"},
		{"//a", "/", "a"}, {"/a/", "/", "a"}, {"/a//", "/", "a"}, {"/./a", "/", "a"}, {"/../a", "/", "a"}, {"/a/b/..", "/", "a"}, {"/ab", "/", "ab"}, {"//a//b//", "/a", "b"}, {"/a/./b/.", "/a", "b"}, {"/a/../b/c", "/b", "c"}, {"/a/...", "/a", "..."},
		{"\x00", ".", "\x00"}, {"/\x00", "/", "\x00"}, {"\xff/\xfe", "\xff", "\xfe"}, {"/ ", "/", " "}, {"a\\b", ".", "a\\b"},
	} {
		if dir, last := track.Split(c.s); dir != c.dir || last != c.last {
			t.Errorf("Split(%q) = %q, %q, want %q, %q", c.s, dir, last, c.dir, c.last)
		}
	}
}

// P3.2: Below, which cleans nothing and checks nothing.
func TestBelow(t *testing.T) {
	for _, c := range []struct{ s, n, want string }{
		{"/", "a", "/a"}, {"/a", "b", "/a/b"}, {"/a/b", "c", "/a/b/c"}, {"a", "b", "a/b"}, {".", "a", "./a"}, {"..", "a", "../a"},
		{"/a/", "b", "/a/b"}, {"/a///", "b", "/a/b"}, {"a//", "b", "a/b"}, {"//", "a", "/a"}, {"////", "a", "/a"}, {"", "a", "/a"},
		{"", "", "/"}, {"/", "", "/"}, {"//", "", "/"}, {"/a", "", "/a/"}, {"/a/", "", "/a/"}, {"a", "", "a/"},
		{"//a", "b", "//a/b"}, {"/a//b/", "c", "/a//b/c"}, {"/a/.", "b", "/a/./b"}, {"/a/..", "b", "/a/../b"}, {"/a/./", "b", "/a/./b"}, {"/a", "..", "/a/.."}, {"/a", ".", "/a/."}, {"/a", "b/", "/a/b/"}, {"/a", "/b", "/a//b"}, {"/a/", "/", "/a//"}, {"/", "/", "//"}, {"/a", "b/c", "/a/b/c"},
		{"/\x00", "\xff", "/\x00/\xff"}, {" ", " ", " / "}, {"a" + strings.Repeat("/", 1<<20), "b", "a/b"},
	} {
		if got := track.Below(c.s, c.n); got != c.want {
			t.Errorf("Below(%.20q, %q) = %.20q, want %q", c.s, c.n, got, c.want)
		}
	}
}

// wantJoin, wantInside, wantRel, wantSplit and wantBelow are told from path.Clean, which has the same rules, and byte by byte.
func wantJoin(a, b string) string {
	if len(b) > 0 && b[0] == '/' || len(a) == 0 {
		return path.Clean(b)
	}
	return path.Clean(strings.Join([]string{a, b}, "/"))
}

// bare is s without its trailing slashes.
func bare(s string) string {
	for len(s) > 0 && s[len(s)-1] == '/' {
		s = s[:len(s)-1]
	}
	return s
}

func wantInside(base, s string) bool {
	b := bare(base)
	return base == s || len(s) > len(b) && s[:len(b)] == b && s[len(b)] == '/'
}

func wantRel(base, s string) (string, bool) {
	if !path.IsAbs(base) || !path.IsAbs(s) {
		return "", false
	}
	empty := func(c string) bool { return c == "" }
	b := slices.DeleteFunc(strings.Split(path.Clean(base), "/"), empty)
	l := slices.DeleteFunc(strings.Split(path.Clean(s), "/"), empty)
	if len(l) < len(b) || !slices.Equal(l[:len(b)], b) {
		return "", false
	}
	if len(l) == len(b) {
		return ".", true
	}
	return strings.Join(l[len(b):], "/"), true
}

func wantSplit(s string) (string, string) {
	c := path.Clean(s)
	if c == "/" || c == "." {
		return c, ""
	}
	// Not path.Dir, which would clean once more and take ".." for a step back.
	dir, last := path.Split(c)
	switch dir {
	case "":
		return ".", last
	case "/":
		return "/", last
	}
	return dir[:len(dir)-1], last
}

func wantBelow(s, n string) string { return bare(s) + "/" + n }

// one holds the answers for one string against what the promises say of it.
func one(t *testing.T, s string) {
	if got, want := track.Clean(s), path.Clean(s); got != want {
		t.Errorf("Clean(%.20q), %d bytes, = %.20q, want %.20q", s, len(s), got, want)
	}
	dir, last := track.Split(s)
	if wantDir, wantLast := wantSplit(s); dir != wantDir || last != wantLast {
		t.Errorf("Split(%.20q), %d bytes, = %.20q, %.20q, want %.20q, %.20q", s, len(s), dir, last, wantDir, wantLast)
	}
}

// two holds the answers for two strings against what the promises say of them.
func two(t *testing.T, a, b string) {
	if got, want := track.Join(a, b), wantJoin(a, b); got != want {
		t.Errorf("Join(%.20q, %.20q) = %.20q, want %.20q", a, b, got, want)
	}
	if got, want := track.Inside(a, b), wantInside(a, b); got != want {
		t.Errorf("Inside(%.20q, %.20q) = %t, want %t", a, b, got, want)
	}
	got, ok := track.Rel(a, b)
	if want, wantOK := wantRel(a, b); got != want || ok != wantOK {
		t.Errorf("Rel(%.20q, %.20q) = %.20q, %t, want %.20q, %t", a, b, got, ok, want, wantOK)
	}
	if got, want := track.Below(a, b), wantBelow(a, b); got != want {
		t.Errorf("Below(%.20q, %.20q) = %.20q, want %.20q", a, b, got, want)
	}
}

// follows holds the answers against each other.
func follows(t *testing.T, base, s string) {
	if c := track.Clean(s); track.Clean(c) != c {
		t.Errorf("Clean(%.20q) = %.20q, and Clean of that %.20q", s, c, track.Clean(c))
	}
	rel, ok := track.Rel(base, s)
	if !ok {
		return
	}
	if got, want := track.Join(base, rel), track.Clean(s); got != want {
		t.Errorf("Rel(%.20q, %.20q) = %.20q, which joined to base is %.20q, want %.20q", base, s, rel, got, want)
	}
}

// P3.1, P3.2: all functions on all short strings, on woven and on long ones.
func TestAll(t *testing.T) {
	for _, l := range [][]string{short(7, "/.a\x00"), woven(6), long()} {
		for _, s := range l {
			one(t, s)
		}
	}
	for _, l := range [][]string{short(4, "/.ab"), woven(3), long()} {
		for _, a := range l {
			for _, b := range l {
				two(t, a, b)
			}
		}
	}
}

// P3.3: Clean is idempotent, and what Rel tells leads from base to s again.
func TestFollows(t *testing.T) {
	for _, l := range [][]string{short(7, "/.a\x00"), woven(6)} {
		for _, s := range l {
			follows(t, "/", s)
		}
	}
	rels := 0
	for _, l := range [][]string{short(4, "/.ab"), woven(3), long()} {
		for _, a := range l {
			for _, b := range l {
				follows(t, a, b)
				if _, ok := track.Rel(a, b); ok {
					rels++
				}
			}
		}
	}
	if rels < 1000 {
		t.Errorf("only %d pairs of which Rel tells something", rels)
	}
}

func FuzzTrack(f *testing.F) {
	for _, c := range [][2]string{{"", ""}, {"/", "/a"}, {"/a/../../b/.", "a/../.."}, {"/a", "/a/b/c"}, {"/a//", "/ab"}, {"..", "../.."}, {"\x00", "/\xff/."}} {
		f.Add(c[0], c[1])
	}
	f.Fuzz(func(t *testing.T, a, b string) {
		one(t, a)
		two(t, a, b)
		follows(t, a, b)
	})
}
