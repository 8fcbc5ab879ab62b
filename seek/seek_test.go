package seek_test

import (
	"fmt"
	"math"
	"math/rand/v2"
	"strings"
	"testing"
	"time"

	"ragpicker/api"
	"ragpicker/mount"
	"ragpicker/seek"
)

// P15.1: the chapter's example.
func TestExample(t *testing.T) {
	b := opened(t)
	d := b.dir(1, "d")
	x := b.file(d, "x")
	l := b.link(1, "l", "d/")
	b.is(root, "/l", false, at(1, "l", l), accepted)
	b.is(root, "/l", true, must(1, "d", d), accepted)
	b.leads("/l/x", at(d, "x", x))
	b.leads("/l/../d/y", at(d, "y", 0))
}

// P15.1: a nil World is ErrArg, whatever else is wrong.
func TestNilWorld(t *testing.T) {
	for _, path := range []string{"/", "", "/a", "/a/..", "a", "..", "/\x00", "\x00", "/" + letters(maxPath), letters(maxPath + 1)} {
		for _, c := range []api.Cred{root, {UID: 5, GID: 6}, {UID: -1, GID: math.MaxInt}} {
			for _, follow := range []bool{false, true} {
				if got, e := seek.Path(nil, c, path, follow); got != (api.Found{}) || e != api.ErrArg {
					t.Errorf("Path(nil, %v, %s, %v) = %+v, %d, want 1", c, short(path), follow, got, e)
				}
			}
		}
	}
}

// P15.1: each error of name.Path, ahead of every error of resolution: on the way of each path there is, from the second
// world on, one of them.
func TestNoPath(t *testing.T) {
	worlds := []*both{opened(t), opened(t), opened(t), opened(t)}
	worlds[0].dir(1, "a")
	worlds[1].link(1, "a", "a")
	worlds[2].change(1, 0, 1, 1)
	top := worlds[3].p.nodes[1]
	top.Kind = fileKind
	worlds[3].set(top)
	c := api.Cred{UID: 5, GID: 6}
	for _, b := range worlds {
		for path, want := range map[string]api.Errno{
			"":                                 none,
			"a":                                wrong,
			".":                                wrong,
			"..":                               wrong,
			"a/a":                              wrong,
			"./a/a":                            wrong,
			"\\a/a":                            wrong,
			" /a/a":                            wrong,
			"\x00":                             wrong,
			"\x00/a":                           wrong,
			"/\x00":                            wrong,
			"/a\x00":                           wrong,
			"/a/a\x00":                         wrong,
			"/a\x00/a":                         wrong,
			"/a/\x00/a/":                       wrong,
			"/" + letters(256) + "/\x00":       wrong,
			letters(maxPath):                   wrong,
			letters(maxPath + 1):               wrong,
			"a/" + letters(maxPath):            wrong,
			"/" + letters(maxPath-1) + "\x00":  wrong,
			"/a/" + letters(maxPath) + "\x00/": wrong,
			"/" + letters(maxPath):             tooLong,
			"/a/a/" + letters(maxPath-4):       tooLong,
			strings.Repeat("/", maxPath+1):     tooLong,
			strings.Repeat("/", 100000):        tooLong,
			strings.Repeat("/a", 2049):         tooLong,
			strings.Repeat("/..", 2000):        tooLong,
		} {
			for _, follow := range []bool{false, true} {
				b.is(c, path, follow, api.Found{}, want)
			}
		}
	}
}

// P15.1: a path of MaxPath bytes is resolved, and a longer one isn't.
func TestLongestPath(t *testing.T) {
	b := opened(t)
	d := b.dir(1, "d")
	x := b.file(d, "x")
	deep := d
	for range maxPath/2 - 1 {
		deep = b.dir(deep, "d")
	}
	for path, want := range map[string]api.Found{
		strings.Repeat("/", maxPath):                self(1),
		"/" + strings.Repeat("./", 2047) + ".":      self(1),
		"/d" + strings.Repeat("/", maxPath-2):       must(1, "d", d),
		"/d" + strings.Repeat("/", maxPath-3) + "x": at(d, "x", x),
		strings.Repeat("/d/..", 819) + "/":          self(1),
		strings.Repeat("/d/..", 818) + "//d//x":     at(d, "x", x),
		strings.Repeat("/..", 1364) + "///d":        at(1, "d", d),
		strings.Repeat("/d", maxPath/2):             at(b.p.nodes[deep].Up, "d", deep),
	} {
		if len(path) != maxPath {
			t.Fatalf("a fault of this test: %s", short(path))
		}
		b.leads(path, want)
		b.fails(path+"/", tooLong)
	}
}

// P15.1: Dir, Name, No and Slash of each form of a path's end.
func TestAnswers(t *testing.T) {
	b := opened(t)
	a := b.dir(1, "a")
	x := b.dir(a, "b")
	f := b.file(x, "f")
	for path, want := range map[string]api.Found{
		"/": self(1), "//": self(1), "///": self(1), "/.": self(1), "/./": self(1), "//.//./": self(1), "/..": self(1), "/../": self(1), "/../.": self(1),
		"/a/..": self(1), "/a/../": self(1), "/a/../.": self(1), "/a/b/..": self(a), "/a/b/../": self(a), "/a/b/.././": self(a), "/a/b/../..": self(1),
		"/a": at(1, "a", a), "//a": at(1, "a", a), "/./a": at(1, "a", a), "/../a": at(1, "a", a), "/a/../a": at(1, "a", a), "/a/b/../../a": at(1, "a", a),
		"/a/": must(1, "a", a), "/a//": must(1, "a", a), "/a/.": must(1, "a", a), "/a/./": must(1, "a", a), "/a//./.": must(1, "a", a), "/../a/": must(1, "a", a),
		"/a/b": at(a, "b", x), "/a//b": at(a, "b", x), "/a/./b": at(a, "b", x), "/a/b/../b": at(a, "b", x), "/a/b/": must(a, "b", x), "/a/b/.": must(a, "b", x),
		"/a/b/f": at(x, "f", f), "/a/b/./f": at(x, "f", f), "/a/b/../b/f": at(x, "f", f),
		"/c": at(1, "c", 0), "/c/": must(1, "c", 0), "/c/.": must(1, "c", 0), "/c//": must(1, "c", 0), "/c/././/": must(1, "c", 0), "/a/..//c/": must(1, "c", 0),
		"/a/c": at(a, "c", 0), "/a/c/": must(a, "c", 0), "/a/c/.": must(a, "c", 0), "/a/./c": at(a, "c", 0), "/a/b/../c": at(a, "c", 0), "/a/b/../c/.": must(a, "c", 0),
		"/...": at(1, "...", 0), "/.../": must(1, "...", 0), "/.a": at(1, ".a", 0), "/a.": at(1, "a.", 0), "/..a": at(1, "..a", 0), "/a/b/a..": at(x, "a..", 0),
		"/A": at(1, "A", 0), "/a ": at(1, "a ", 0), "/aa": at(1, "aa", 0), "/\xff": at(1, "\xff", 0), "/a\\b": at(1, "a\\b", 0), "/*": at(1, "*", 0), "/\n/": must(1, "\n", 0),
	} {
		b.leads(path, want)
	}
}

// P15.1: Dir and Name are those of the directory in which the name was looked up, also where a node has several names.
func TestSeveralNames(t *testing.T) {
	b := opened(t)
	a, d := b.dir(1, "a"), b.dir(1, "d")
	f := b.file(a, "f")
	b.name(a, "g", f)
	b.name(d, "f", f)
	b.name(d, "h", f)
	b.name(1, "f", f)
	for path, want := range map[string]api.Found{
		"/a/f": at(a, "f", f), "/a/g": at(a, "g", f), "/d/f": at(d, "f", f), "/d/h": at(d, "h", f), "/f": at(1, "f", f), "/d/g": at(d, "g", 0), "/h": at(1, "h", 0),
	} {
		b.leads(path, want)
	}
}

// P15.1: names are looked up byte by byte, in directories of few and of many entries.
func TestManyNames(t *testing.T) {
	b := opened(t)
	var want []api.Found
	for _, s := range []string{"\x01", " ", "\"", "-", "...", "..a", ".a", "0", "A", "B", "a", "a ", "a.", "aa", "ab", "b", "~", "\x7f", "\xc3\xa9", "e\xcc\x81", "\xff", "\xff\xff"} {
		want = append(want, at(1, s, b.file(1, s)))
		for _, x := range want {
			b.leads("/"+x.Name, x)
		}
	}
	b = opened(t)
	d := b.dir(1, "d")
	n := b.p.nodes[d]
	for k := range 20000 {
		n.Ents = append(n.Ents, api.Ent{Name: fmt.Sprintf("%05d", 2*k), No: 1})
	}
	b.set(n)
	for _, k := range []int{0, 1, 2, 3, 9999, 10000, 19999, 20000, 20001, 39997, 39998, 39999, 40000} {
		no := 1
		if k%2 == 1 || k >= 40000 {
			no = 0
		}
		s := fmt.Sprintf("%05d", k)
		b.leads("/d/"+s, at(d, s, no))
	}
}

// P15.1: a component behind what is no directory is ErrNotDir, whatever the component is; at the end of a path, such a node
// is answered unless it must be a directory.
func TestNotDir(t *testing.T) {
	behind := []string{"x", "f", "..", "../", "../a", "x/", "x/..", "../..", letters(maxName), letters(maxName + 1), letters(4000), "../" + letters(256), "f/f/f"}
	b := opened(t)
	a := b.dir(1, "a")
	var nos []int
	nos = append(nos, b.file(a, "f"))
	for _, kind := range []int{0, 4, 5, -1, math.MinInt, math.MaxInt, 1<<32 + 1, 1<<32 + 3} {
		// Names in what is no directory don't count, and neither does a text that is no link's.
		n := api.Node{Kind: kind, Mode: 0o777, Up: a, Data: "/a", Ents: []api.Ent{{Name: "f", No: 1}, {Name: "x", No: 1}}}
		nos = append(nos, b.put(a, fmt.Sprint("k", len(nos)), n))
	}
	gone := b.dir(a, "g")
	b.kill(gone)
	nos = append(append(nos, gone), numbers...)
	for _, no := range nos {
		b.name(a, "n", no)
		b.leads("/a/n", at(a, "n", no))
		b.leads("/a/../a/./n", at(a, "n", no))
		for _, end := range []string{"/", "//", "/.", "/./", "/.//."} {
			b.fails("/a/n"+end, notDir)
		}
		for _, s := range behind {
			b.fails("/a/n/"+s, notDir)
			b.fails("/a/n/./"+s, notDir)
		}
		for _, text := range []string{"a/n", "/a/n", "../a/n"} {
			l := b.link(1, "l", text)
			b.is(root, "/l", false, at(1, "l", l), accepted)
			b.is(root, "/l", true, at(a, "n", no), accepted)
			b.fails("/l/", notDir)
			b.fails("/l/.", notDir)
			for _, s := range behind {
				b.fails("/l/"+s, notDir)
				l := b.link(1, "m", text+"/"+s)
				b.is(root, "/m", false, at(1, "m", l), accepted)
				b.is(root, "/m", true, api.Found{}, notDir)
			}
			l = b.link(1, "m", text+"/")
			b.is(root, "/m", false, at(1, "m", l), accepted)
			b.is(root, "/m", true, api.Found{}, notDir)
			b.link(1, "m", "l/")
			b.is(root, "/m", true, api.Found{}, notDir)
			b.fails("/m/", notDir)
		}
	}
	b.same()
}

// P15.1: where ".." comes to what is no directory, a component behind it is ErrNotDir, and without one it is the answer.
func TestNotDirAbove(t *testing.T) {
	b := opened(t)
	d := b.dir(1, "d")
	f := b.file(1, "f")
	l := b.link(1, "l", "d")
	gone := b.dir(1, "g")
	b.kill(gone)
	for _, no := range append([]int{f, l, gone, 0}, numbers...) {
		n := b.p.nodes[d]
		n.Up = no
		b.set(n)
		b.leads("/d", at(1, "d", d))
		b.leads("/d/x", at(d, "x", 0))
		for _, end := range []string{"/..", "/../", "/../."} {
			b.leads("/d"+end, self(no))
		}
		for _, s := range []string{"x", "..", "f", "d", letters(256)} {
			b.fails("/d/../"+s, notDir)
		}
	}
}

// P15.1: the top may be no directory, or not be there: that is asked as soon as there is a component.
func TestNoTop(t *testing.T) {
	for _, kind := range []int{2, 3, 0, 4, -1} {
		b := opened(t)
		d := b.dir(1, "d")
		n := b.p.nodes[1]
		n.Kind, n.Data = kind, "/d"
		b.set(n)
		b.leads("/", self(1))
		b.leads("/./", self(1))
		for _, path := range []string{"/d", "/..", "/d/", "/x", "/" + letters(256)} {
			b.fails(path, notDir)
		}
		b.w.Drop(1)
		delete(b.p.nodes, 1)
		b.leads("/", self(1))
		b.fails("/d", notDir)
		b.fails("/..", notDir)
		if _, ok := b.w.Get(d); !ok {
			t.Error("the directory is gone")
		}
	}
}

// users are of each kind for a node of user 5 and group 6.
var users = []api.Cred{
	{UID: 5, GID: 6}, {UID: 5, GID: 9}, {UID: 7, GID: 6}, {UID: 7, GID: 9}, {UID: 6, GID: 5}, {UID: 0, GID: 9}, {UID: 0, GID: 0}, {UID: 7, GID: 0},
	{UID: -1, GID: -1}, {UID: math.MaxInt, GID: math.MinInt},
}

// P15.1: Search permission is asked of each directory in which a component is looked up, and of no other node, by all bits of
// a mode and for all kinds of users.
func TestSearch(t *testing.T) {
	b := opened(t)
	d := b.dir(1, "d")
	e := b.dir(d, "e")
	f := b.file(e, "f")
	b.link(1, "l", "d/e/f")
	for _, x := range []struct {
		no int
		// in is paths by which something is looked up in the node; free is those by which nothing is.
		in   map[string]api.Found
		free []string
	}{
		{1, map[string]api.Found{"/d": at(1, "d", d), "/x": at(1, "x", 0), "/..": self(1), "/d/e/f": at(e, "f", f), "/l": at(e, "f", f), "/d/x/": must(d, "x", 0)}, []string{"/", "//", "/."}},
		{d, map[string]api.Found{"/d/e": at(d, "e", e), "/d/x": at(d, "x", 0), "/d/..": self(1), "/d/e/f": at(e, "f", f), "/d/e/..": self(d)}, []string{"/d", "/d/", "/d/.", "/x"}},
		{e, map[string]api.Found{"/d/e/f": at(e, "f", f), "/d/e/x": at(e, "x", 0), "/d/e/..": self(d), "/d/e/../x": at(d, "x", 0)}, []string{"/d/e", "/d/e/", "/d/../d/e/.", "/d/x"}},
		{f, nil, []string{"/d/e/f", "/l"}},
	} {
		for mode := range 1024 {
			b.change(x.no, mode, 5, 6)
			for _, c := range users {
				may := mode%2 == 1
				if c.GID == 6 {
					may = mode/8%2 == 1
				}
				if c.UID == 5 {
					may = mode/64%2 == 1
				}
				for path, want := range x.in {
					is := accepted
					if c.UID != 0 && !may {
						want, is = api.Found{}, access
					}
					b.is(c, path, true, want, is)
				}
				for _, path := range x.free {
					if _, is := b.drawn(c, path, true); is != accepted {
						t.Errorf("Path(%v, %s) = %d with mode %o of node %d", c, path, is, mode, x.no)
					}
				}
			}
		}
		b.change(x.no, 0o711, 0, 0)
	}
}

// P15.1: user 0 needs no permission, and no link needs one.
func TestSearchFree(t *testing.T) {
	b := opened(t)
	d := b.dir(1, "d")
	l := b.link(d, "l", "../d/f")
	f := b.file(d, "f")
	for _, no := range []int{1, d, l, f} {
		b.change(no, 0, 9, 9)
	}
	b.is(root, "/d/l", true, at(d, "f", f), accepted)
	b.is(api.Cred{GID: 9}, "/d/l", true, at(d, "f", f), accepted)
	b.is(api.Cred{UID: 9}, "/d/l", true, api.Found{}, access)
	for _, no := range []int{1, d} {
		b.change(no, 0o100, 9, 9)
	}
	b.is(api.Cred{UID: 9}, "/d/l", true, at(d, "f", f), accepted)
	b.is(api.Cred{UID: 9}, "/d/l", false, at(d, "l", l), accepted)
	b.is(api.Cred{UID: 8}, "/d/l", true, api.Found{}, access)
}

// P15.1: on each way on, permission is asked anew: behind "..", behind a link, and on the root of a mount, not on what it
// covers.
func TestSearchAgain(t *testing.T) {
	c := api.Cred{UID: 5, GID: 6}
	b := opened(t)
	d := b.dir(1, "d")
	e := b.dir(d, "e")
	m := b.dir(1, "m")
	over := b.cover(m)
	b.link(1, "l", "/d/e")
	b.link(e, "up", "../x")
	b.link(over, "out", "..")
	b.change(d, 0o600, 0, 0)
	b.is(c, "/d/e", true, api.Found{}, access)
	b.is(c, "/l", true, api.Found{}, access)
	b.is(c, "/l", false, at(1, "l", b.p.named(b.p.nodes[1], "l")), accepted)
	b.is(c, "/l/", false, api.Found{}, access)
	b.change(d, 0o711, 0, 0)
	b.change(e, 0o600, 0, 0)
	b.is(c, "/l", true, at(d, "e", e), accepted)
	b.is(c, "/l/", false, must(d, "e", e), accepted)
	b.is(c, "/l/..", false, api.Found{}, access)
	b.is(c, "/l/up", false, api.Found{}, access)
	b.change(e, 0o711, 0, 0)
	b.is(c, "/l/up", true, at(d, "x", 0), accepted)
	b.change(m, 0, 0, 0)
	b.is(c, "/m/x", true, at(over, "x", 0), accepted)
	b.is(c, "/m/..", true, self(1), accepted)
	b.is(c, "/m/out", true, self(1), accepted)
	b.change(m, 0o777, 0, 0)
	b.change(over, 0o666, 0, 0)
	b.is(c, "/m", true, at(1, "m", over), accepted)
	b.is(c, "/m/x", true, api.Found{}, access)
	b.is(c, "/m/..", true, api.Found{}, access)
	b.is(c, "/m/out", true, api.Found{}, access)
}

// P15.1: the errors of one component come in the order of the chapter's sentence: each of them beside all later ones.
func TestOrder(t *testing.T) {
	c := api.Cred{UID: 5, GID: 6}
	long := letters(256)
	b := opened(t)
	d := b.dir(1, "d")
	f := b.file(1, "f")
	b.name(d, long, f)
	b.file(d, "x")
	b.link(d, "empty", "")
	b.link(d, "self", "self")
	parts := []string{"..", long, long + "/", long + "/..", "no", "no/", "no/x", "x", "x/", "x/..", "empty", "empty/", "self", "self/", "self/" + long}
	for _, mode := range []int{0, 0o666} {
		b.change(f, mode, 0, 0)
		b.change(d, mode, 0, 0)
		for _, part := range parts {
			for _, follow := range []bool{false, true} {
				b.is(c, "/f/"+part, follow, api.Found{}, notDir)
				b.is(c, "/d/"+part, follow, api.Found{}, access)
			}
		}
	}
	b.change(f, 0o777, 0, 0)
	b.change(d, 0o711, 0, 0)
	for _, part := range parts {
		b.is(c, "/f/"+part, true, api.Found{}, notDir)
	}
	for part, e := range map[string]api.Errno{
		long: tooLong, long + "/": tooLong, long + "/..": tooLong, long + "/x": tooLong, long + "/" + long: tooLong,
		"no/x": none, "no/..": none, "no/" + long: none, "x/": notDir, "x/x": notDir, "x/..": notDir, "x/" + long: notDir,
		"empty": none, "empty/": none, "empty/x": none, "empty/" + long: none, "self": loop, "self/": loop, "self/" + long: loop,
		"../../" + long: tooLong, "../f/..": notDir, "../no/..": none,
	} {
		b.is(c, "/d/"+part, true, api.Found{}, e)
	}
	b.is(c, "/d/..", true, self(1), accepted)
	// The component at which the resolution comes to an error first tells it.
	b.change(d, 0, 0, 0)
	for path, e := range map[string]api.Errno{
		"/" + long + "/../d/x": tooLong, "/d/" + long: access, "/no/d/x": none, "/f/../d/x": notDir, "/d/../f/x": access, "/d/no/" + long: access, "/f/d/x": notDir,
	} {
		b.is(c, path, true, api.Found{}, e)
	}
}

// P15.1: ".." at the top, below it, at the root of a mount, behind links, and behind components that are no names.
func TestUp(t *testing.T) {
	b := opened(t)
	a := b.dir(1, "a")
	d := b.dir(a, "d")
	m := b.dir(d, "m")
	b.dir(m, "hidden")
	over := b.cover(m)
	x := b.dir(over, "x")
	y := b.dir(x, "y")
	deep := b.cover(y)
	b.link(1, "l", "a/d")
	b.link(over, "far", "/a/d/m/x/y")
	back := b.link(a, "back", "..")
	b.link(a, "backs", "../")
	b.link(a, "backto", "d/../../a/d/..")
	for path, want := range map[string]api.Found{
		"/..": self(1), "/../..": self(1), "/../../../../..": self(1), "/../a": at(1, "a", a), "/../../a/": must(1, "a", a), "/./..": self(1), "//../.": self(1),
		"/a/..": self(1), "/a/d/..": self(a), "/a/d/../..": self(1), "/a/d/../../..": self(1), "/a/d/../d": at(a, "d", d), "/a/./..": self(1), "/a//..": self(1),
		"/a/d/m/..": self(d), "/a/d/m/../..": self(a), "/a/d/m/x/..": self(over), "/a/d/m/x/../..": self(d), "/a/d/m/../m": at(d, "m", over),
		"/a/d/m/x/y/..": self(x), "/a/d/m/x/y/../..": self(over), "/a/d/m/x/y/../../..": self(d), "/a/d/m/x/y/../y": at(x, "y", deep), "/a/d/m/x/y/.././..": self(over),
		"/l/..": self(a), "/l/../..": self(1), "/l/../d": at(a, "d", d), "/l/m/far/..": self(x), "/l/m/far/../..": self(over), "/l/m/..": self(d),
		"/a/back/..": self(1), "/a/back/a": at(1, "a", a), "/a/back/": self(1), "/a/backs/": self(1), "/a/backto/": self(a), "/a/backto/..": self(1), "/a/backto/d": at(a, "d", d),
		"/a/../..": self(1), "/a/d/../.././../a": at(1, "a", a),
	} {
		b.leads(path, want)
	}
	b.is(root, "/a/back", true, self(1), accepted)
	b.is(root, "/a/back", false, at(a, "back", back), accepted)
	b.fails("/no/..", none)
	b.fails("/a/no/../d", none)
	b.fails("/"+letters(256)+"/..", tooLong)
	// It follows where a directory is, not by which name it was reached.
	b.name(1, "other", d)
	b.leads("/other/..", self(a))
	b.leads("/other/../back/other", at(1, "other", d))
}

// P15.1: what is above the root of a mount changes with the directory that it covers, and goes with it; above a directory
// there may be one that a mount covers, which then isn't replaced.
func TestUpChanges(t *testing.T) {
	b := opened(t)
	a, z := b.dir(1, "a"), b.dir(1, "z")
	m := b.dir(a, "m")
	over := b.cover(m)
	b.leads("/a/m/..", self(a))
	n := b.p.nodes[m]
	n.Up = z
	b.set(n)
	b.leads("/a/m/..", self(z))
	b.leads("/a/m/../m", at(z, "m", 0))
	b.name(z, "m", m)
	b.leads("/z/m/../m", at(z, "m", over))
	root := b.cover(z)
	b.leads("/z", at(1, "z", root))
	b.leads("/a/m/..", self(z))
	b.leads("/a/m/../m", at(z, "m", over))
	b.leads("/z/m", at(root, "m", 0))
	b.kill(m)
	b.leads("/a/m", at(a, "m", over))
	b.leads("/a/m/x", at(over, "x", 0))
	b.leads("/a/m/..", self(0))
	b.fails("/a/m/../x", notDir)
	b.fails("/a/m/../..", notDir)
}

// P15.1: components of up to MaxName bytes are looked up, and longer ones aren't, whether they are there or not, at the end,
// in the middle, and by a link's text alone.
func TestLong(t *testing.T) {
	for _, char := range []string{"n", "\xff", "."} {
		for _, size := range []int{1, 2, 3, 100, maxName - 1, maxName, maxName + 1, maxName + 2, 300, 511, 512, 4000, maxPath - 10} {
			s := strings.Repeat(char, size)
			if char == "." && size < 3 {
				continue
			}
			b := opened(t)
			l := b.link(1, "l", s)
			in := b.link(1, "m", s+"/x")
			end := b.link(1, "k", "/./"+s+"/.")
			fine := size <= maxName
			if fine {
				b.leads("/"+s, at(1, s, 0))
				b.leads("/"+s+"/", must(1, s, 0))
				b.fails("/"+s+"/x", none)
				b.is(root, "/l", true, at(1, s, 0), accepted)
				b.is(root, "/k", true, must(1, s, 0), accepted)
				b.leads("/l/", must(1, s, 0))
				b.fails("/m/", none)
			}
			d := b.dir(1, s)
			x := b.file(d, "x")
			b.is(root, "/l", false, at(1, "l", l), accepted)
			b.is(root, "/m", false, at(1, "m", in), accepted)
			b.is(root, "/k", false, at(1, "k", end), accepted)
			if fine {
				b.leads("/"+s, at(1, s, d))
				b.leads("/"+s+"/x", at(d, "x", x))
				b.is(root, "/l", true, at(1, s, d), accepted)
				b.is(root, "/m", true, at(d, "x", x), accepted)
				b.is(root, "/k", true, must(1, s, d), accepted)
				b.leads("/l/x", at(d, "x", x))
				continue
			}
			for _, path := range []string{"/" + s, "/" + s + "/", "/" + s + "/x", "/" + s + "/..", "/./" + s, "/l/", "/l/x", "/l/..", "/m/", "/m/x", "/k/", "/k/x"} {
				b.fails(path, tooLong)
			}
			for _, path := range []string{"/l", "/m", "/k"} {
				b.is(root, path, true, api.Found{}, tooLong)
			}
		}
	}
}

// P15.1: bytes count, not characters.
func TestLongCharacters(t *testing.T) {
	b := opened(t)
	for _, s := range []string{strings.Repeat("\u00e9", 127), strings.Repeat("\u00e9", 127) + "x", strings.Repeat("\U0001f5d1", 63)} {
		b.leads("/"+s, at(1, s, 0))
	}
	for _, s := range []string{strings.Repeat("\u00e9", 128), strings.Repeat("\u00e9", 200), strings.Repeat("\U0001f5d1", 64)} {
		b.fails("/"+s, tooLong)
	}
}

// P15.1: a name that does not exist, with nothing, slashes and components behind it, and by links of each kind.
func TestMissing(t *testing.T) {
	b := opened(t)
	d := b.dir(1, "d")
	e := b.dir(d, "e")
	for dir, path := range map[int]string{1: "", d: "/d", e: "/d/e"} {
		b.leads(path+"/n", at(dir, "n", 0))
		for _, end := range []string{"/", "//", "/.", "/./", "///."} {
			b.leads(path+"/n"+end, must(dir, "n", 0))
		}
		for _, more := range []string{"/..", "/n", "/../", "/../d", "/n/..", "/n/n/n", "/./n", "//..", "/" + letters(256)} {
			b.fails(path+"/n"+more, none)
		}
		for _, text := range []string{"d/../." + path + "/n", "/." + path + "/n"} {
			l := b.link(1, "l", text)
			b.is(root, "/l", false, at(1, "l", l), accepted)
			b.is(root, "/l", true, at(dir, "n", 0), accepted)
			b.leads("/l/", must(dir, "n", 0))
			b.leads("/l/.", must(dir, "n", 0))
			b.fails("/l/..", none)
			b.fails("/l/n", none)
			l = b.link(1, "l", text+"/")
			b.is(root, "/l", false, at(1, "l", l), accepted)
			b.is(root, "/l", true, must(dir, "n", 0), accepted)
			b.leads("/l/", must(dir, "n", 0))
			b.link(1, "l", text+"/n")
			b.is(root, "/l", true, api.Found{}, none)
			b.fails("/l/", none)
			b.link(1, "l", text+"/..")
			b.is(root, "/l", true, api.Found{}, none)
		}
	}
	// A name of the number 0 names nothing.
	b.name(d, "zero", 0)
	b.leads("/d/zero", at(d, "zero", 0))
	b.leads("/d/zero/", must(d, "zero", 0))
	b.fails("/d/zero/x", none)
}

// P15.1: a file, at the end of a path and of links' texts, which is answered unless it must be a directory.
func TestFile(t *testing.T) {
	b := opened(t)
	d := b.dir(1, "d")
	f := b.file(d, "f")
	l := b.link(1, "l", "d/f")
	k := b.link(1, "k", "l")
	b.leads("/d/f", at(d, "f", f))
	b.is(root, "/l", true, at(d, "f", f), accepted)
	b.is(root, "/k", true, at(d, "f", f), accepted)
	b.is(root, "/l", false, at(1, "l", l), accepted)
	b.is(root, "/k", false, at(1, "k", k), accepted)
	for _, path := range []string{"/d/f", "/l", "/k"} {
		for _, end := range []string{"/", "//", "/.", "/./", "/..", "/x", "/f", "/../f", "/x/"} {
			b.fails(path+end, notDir)
		}
	}
	for _, text := range []string{"d/f/", "d/f/.", "l/", "l/.", "k/", "/k//", "d/f/..", "l/..", "l/x"} {
		s := b.link(1, "s", text)
		over := b.link(1, "o", "s")
		b.is(root, "/s", false, at(1, "s", s), accepted)
		b.is(root, "/o", false, at(1, "o", over), accepted)
		for _, path := range []string{"/s", "/o"} {
			b.is(root, path, true, api.Found{}, notDir)
			for _, end := range []string{"/", "/.", "/..", "/x"} {
				b.fails(path+end, notDir)
			}
		}
	}
}

// P15.1: directories that a mount covers, in the middle, at the end, as what a link leads to, on a mount's directory, and
// what they have below them.
func TestMounts(t *testing.T) {
	b := opened(t)
	m := b.dir(1, "m")
	hidden := b.file(m, "hidden")
	b.leads("/m/hidden", at(m, "hidden", hidden))
	b.leads("/m", at(1, "m", m))
	over := b.cover(m)
	x := b.dir(over, "x")
	f := b.file(over, "f")
	y := b.dir(x, "y")
	deep := b.cover(y)
	g := b.file(deep, "g")
	b.link(1, "l", "m")
	b.link(1, "ls", "m/")
	b.link(1, "k", "m/x/y/g")
	b.link(over, "in", "x/y")
	b.link(deep, "abs", "/m/f")
	b.link(deep, "rel", "../../f")
	for path, want := range map[string]api.Found{
		"/m": at(1, "m", over), "/m/": must(1, "m", over), "/m/.": must(1, "m", over), "/m/hidden": at(over, "hidden", 0), "/m/..": self(1), "/m/../m": at(1, "m", over),
		"/m/f": at(over, "f", f), "/m/x": at(over, "x", x), "/m/x/y": at(x, "y", deep), "/m/x/y/": must(x, "y", deep), "/m/x/y/g": at(deep, "g", g), "/m/x/y/..": self(x),
		"/l/": must(1, "m", over), "/ls/": must(1, "m", over), "/l/f": at(over, "f", f), "/ls/x/y/g": at(deep, "g", g), "/l/..": self(1),
		"/m/in/": must(x, "y", deep), "/m/in/g": at(deep, "g", g), "/m/in/..": self(x), "/l/in/h": at(deep, "h", 0),
	} {
		b.leads(path, want)
	}
	b.fails("/m/f/../x", notDir)
	b.fails("/m/x/y/g/..", notDir)
	b.fails("/m/hidden/..", none)
	b.is(root, "/l", true, at(1, "m", over), accepted)
	b.is(root, "/ls", true, must(1, "m", over), accepted)
	b.is(root, "/k", true, at(deep, "g", g), accepted)
	b.is(root, "/m/in", true, at(x, "y", deep), accepted)
	b.is(root, "/m/in/abs", true, at(over, "f", f), accepted)
	b.is(root, "/m/in/rel", true, at(over, "f", f), accepted)
	// Each name of what is covered leads to the root, and a name of the root itself does, too.
	b.name(1, "again", m)
	b.name(x, "root", over)
	b.leads("/again/f", at(over, "f", f))
	b.leads("/again", at(1, "again", over))
	b.leads("/m/x/root", at(x, "root", over))
	b.leads("/m/x/root/..", self(1))
	b.name(x, "top", 1)
	b.leads("/m/x/top/m", at(1, "m", over))
	b.leads("/m/x/top", at(x, "top", 1))
	b.leads("/m/x/top/..", self(1))
	b.same()
}

// P15.1: as many mounts as may be, each on a directory of the one before it.
func TestAllMounts(t *testing.T) {
	b := opened(t)
	here, path, roots := 1, "", []int(nil)
	for range maxMounts - 1 {
		over := b.cover(b.dir(here, "d"))
		roots = append(roots, over)
		path += "/d"
		b.leads(path, at(here, "d", over))
		b.leads(path+"/x", at(over, "x", 0))
		b.leads(path+"/..", self(here))
		here = over
	}
	l := b.link(here, "l", "/d/d/../x")
	b.is(root, path+"/l", false, at(here, "l", l), accepted)
	b.is(root, path+"/l", true, at(roots[0], "x", 0), accepted)
}

// P15.1: links in the middle and at the end, with texts of each form, followed and not followed.
func TestLinks(t *testing.T) {
	for text, x := range map[string]struct {
		followed api.Found // what the link leads to
		e        api.Errno
		y        api.Found // what y in it leads to
		f        api.Errno
	}{
		"x":                                      {followed: at(3, "x", 4), y: at(4, "y", 0)},
		"./x":                                    {followed: at(3, "x", 4), y: at(4, "y", 0)},
		"x/":                                     {followed: must(3, "x", 4), y: at(4, "y", 0)},
		"x//":                                    {followed: must(3, "x", 4), y: at(4, "y", 0)},
		"x/.":                                    {followed: must(3, "x", 4), y: at(4, "y", 0)},
		"x/y":                                    {followed: at(4, "y", 0), f: none},
		"x/y/":                                   {followed: must(4, "y", 0), f: none},
		"../b/x":                                 {followed: at(3, "x", 4), y: at(4, "y", 0)},
		"../../a/./b//x":                         {followed: at(3, "x", 4), y: at(4, "y", 0)},
		"/a/b/x":                                 {followed: at(3, "x", 4), y: at(4, "y", 0)},
		"//a/b/x/":                               {followed: must(3, "x", 4), y: at(4, "y", 0)},
		"/a":                                     {followed: at(1, "a", 2), y: at(2, "y", 6)},
		"/a/":                                    {followed: must(1, "a", 2), y: at(2, "y", 6)},
		"/./a/b/..":                              {followed: self(2), y: at(2, "y", 6)},
		"..":                                     {followed: self(2), y: at(2, "y", 6)},
		"../":                                    {followed: self(2), y: at(2, "y", 6)},
		"../.":                                   {followed: self(2), y: at(2, "y", 6)},
		"../..":                                  {followed: self(1), y: at(1, "y", 0)},
		"../../../..":                            {followed: self(1), y: at(1, "y", 0)},
		"/":                                      {followed: self(1), y: at(1, "y", 0)},
		"//":                                     {followed: self(1), y: at(1, "y", 0)},
		"/.":                                     {followed: self(1), y: at(1, "y", 0)},
		"/..":                                    {followed: self(1), y: at(1, "y", 0)},
		".":                                      {followed: self(3), y: at(3, "y", 5)},
		"./":                                     {followed: self(3), y: at(3, "y", 5)},
		".//.":                                   {followed: self(3), y: at(3, "y", 5)},
		"x/..":                                   {followed: self(3), y: at(3, "y", 5)},
		"y":                                      {followed: at(3, "y", 5), f: notDir},
		"y/":                                     {e: notDir, f: notDir},
		"y/.":                                    {e: notDir, f: notDir},
		"y/..":                                   {e: notDir, f: notDir},
		"y/../x":                                 {e: notDir, f: notDir},
		"/a/y":                                   {followed: at(2, "y", 6), f: notDir},
		"/a/y/":                                  {e: notDir, f: notDir},
		"no":                                     {followed: at(3, "no", 0), f: none},
		"no/":                                    {followed: must(3, "no", 0), f: none},
		"/no":                                    {followed: at(1, "no", 0), f: none},
		"no/..":                                  {e: none, f: none},
		"no/no":                                  {e: none, f: none},
		"":                                       {e: none, f: none},
		" ":                                      {followed: at(3, " ", 0), f: none},
		" /":                                     {followed: must(3, " ", 0), f: none},
		"...":                                    {followed: at(3, "...", 0), f: none},
		"l":                                      {e: loop, f: loop},
		"./l":                                    {e: loop, f: loop},
		"l/":                                     {e: loop, f: loop},
		"x/../l":                                 {e: loop, f: loop},
		"../b/l":                                 {e: loop, f: loop},
		"/a/b/l":                                 {e: loop, f: loop},
		"l/x":                                    {e: loop, f: loop},
		letters(255):                             {followed: at(3, letters(255), 0), f: none},
		letters(256):                             {e: tooLong, f: tooLong},
		"x/" + letters(256):                      {e: tooLong, f: tooLong},
		letters(256) + "/..":                     {e: tooLong, f: tooLong},
		strings.Repeat("./", 5000) + "x":         {followed: at(3, "x", 4), y: at(4, "y", 0)},
		strings.Repeat("x/../", 5000):            {followed: self(3), y: at(3, "y", 5)},
		strings.Repeat("/", maxPath+1) + "a/b/x": {followed: at(3, "x", 4), y: at(4, "y", 0)},
	} {
		b := opened(t)
		a := b.dir(1, "a")
		d := b.dir(a, "b")
		if b.dir(d, "x") != 4 || b.file(d, "y") != 5 || b.file(a, "y") != 6 {
			t.Fatal("a fault of this test")
		}
		l := b.link(d, "l", text)
		b.is(root, "/a/b/l", false, at(d, "l", l), accepted)
		b.is(root, "/a/b/l", true, x.followed, x.e)
		b.is(root, "/a/./b/../b/l", true, x.followed, x.e)
		// Behind a slash it must be a directory; then whether a file, or nothing, is there counts.
		behind, is := x.followed, x.e
		if is == accepted {
			behind.Slash = true
			if behind.No == 5 || behind.No == 6 {
				behind, is = api.Found{}, notDir
			}
		}
		for _, follow := range []bool{false, true} {
			for _, end := range []string{"/", "//", "/.", "/./"} {
				b.is(root, "/a/b/l"+end, follow, behind, is)
			}
			b.is(root, "/a/b/l/y", follow, x.y, x.f)
			b.is(root, "/a/b/l/./y", follow, x.y, x.f)
		}
		// A link to the link leads where the link leads, from its own directory or from another one.
		for _, to := range []string{"a/b/l", "/a/b/l", "./a/b/../b/l"} {
			k := b.link(1, "k", to)
			b.is(root, "/k", false, at(1, "k", k), accepted)
			b.is(root, "/k", true, x.followed, x.e)
			b.is(root, "/k/", false, behind, is)
			b.is(root, "/k/y", false, x.y, x.f)
			b.link(1, "k", to+"/")
			b.is(root, "/k", true, behind, is)
			b.link(1, "k", to+"/y")
			b.is(root, "/k", true, x.y, x.f)
		}
	}
}

// P15.1: a link that is not the last remaining component is followed, whatever follow is; one that is the last remaining one
// of another link's text is not the last one where something is behind that.
func TestLastRemaining(t *testing.T) {
	b := opened(t)
	d := b.dir(1, "d")
	f := b.file(d, "f")
	l := b.link(d, "l", "f")
	b.link(1, "k", "d/l")
	b.link(1, "toD", "d")
	b.link(1, "toToD", "toD")
	b.is(root, "/k", true, at(d, "f", f), accepted)
	b.fails("/k/x", notDir)
	b.fails("/k/..", notDir)
	b.is(root, "/toToD/l", false, at(d, "l", l), accepted)
	b.is(root, "/toToD/l", true, at(d, "f", f), accepted)
	b.leads("/toToD/f", at(d, "f", f))
	b.leads("/toToD/", must(1, "d", d))
	b.leads("/toToD/..", self(1))
	b.leads("/toToD/../toD/f", at(d, "f", f))
	// The slash of a text counts only where the text replaced the last component.
	b.link(1, "s", "d/")
	b.leads("/s/f", at(d, "f", f))
	b.is(root, "/s/l", false, at(d, "l", l), accepted)
	b.is(root, "/s/l", true, at(d, "f", f), accepted)
	b.leads("/s/x", at(d, "x", 0))
	b.link(1, "ss", "s/l")
	b.is(root, "/ss", true, at(d, "f", f), accepted)
	b.link(1, "u", "..")
	b.leads("/u/d/f", at(d, "f", f))
	b.leads("/u/d", at(1, "d", d))
	// Once it counts, it counts for all that follows: a link behind it, and what that leads to.
	b.link(1, "e", "toToD/")
	b.is(root, "/e", true, must(1, "d", d), accepted)
	b.link(1, "n", "m/")
	b.link(1, "m", "no")
	b.is(root, "/n", true, must(1, "no", 0), accepted)
	b.is(root, "/m", true, at(1, "no", 0), accepted)
	b.link(1, "n", "k/.")
	b.is(root, "/n", true, api.Found{}, notDir)
}

// P15.1: up to MaxHops links are followed, and no more of them, along one component.
func TestHops(t *testing.T) {
	for _, end := range []struct {
		text     string
		followed api.Found
		e        api.Errno
	}{
		{"d", at(1, "d", 2), accepted}, {"d/", must(1, "d", 2), accepted}, {"/d/..", self(1), accepted}, {"no", at(1, "no", 0), accepted}, {".", self(1), accepted},
		{"f", at(1, "f", 3), accepted}, {"", api.Found{}, none}, {letters(256), api.Found{}, tooLong}, {"f/x", api.Found{}, notDir},
	} {
		b := opened(t)
		b.dir(1, "d")
		b.file(1, "f")
		for k := 1; k <= 3*maxHops; k++ {
			text := end.text
			if k > 1 {
				text = fmt.Sprint("l", k-1)
			}
			s := fmt.Sprint("l", k)
			l := b.link(1, s, text)
			want, e := end.followed, end.e
			if k > maxHops {
				want, e = api.Found{}, loop
			}
			b.is(root, "/"+s, false, at(1, s, l), accepted)
			// The links are counted anew for each path.
			for range 3 {
				b.is(root, "/"+s, true, want, e)
			}
			b.is(root, "/././/d/../"+s, true, want, e)
			if k > maxHops {
				for _, more := range []string{"/", "/.", "/..", "/x", "/" + letters(256)} {
					b.fails("/"+s+more, loop)
				}
			}
		}
	}
}

// P15.1: the links of all components are counted together, wherever they stand and wherever they lead.
func TestHopsTogether(t *testing.T) {
	b := opened(t)
	d := b.dir(1, "d")
	b.link(1, "one", "d")
	b.link(d, "back", "..")
	b.link(d, "top", "/")
	b.link(d, "here", ".")
	b.link(1, "three", "two")
	b.link(1, "two", "one")
	b.link(1, "four", "one/back/two/here")
	last := b.link(d, "last", "x")
	for path, links := range map[string]int{
		"": 0, "/d": 0, "/one": 1, "/two": 2, "/three": 3, "/one/here": 2, "/three/here": 4, "/four": 6, "/d/here/here/here": 3, "/one/back": 2, "/one/../two": 3,
		"/d/top/one": 2, "/d/top/three/top/three": 8, "/one/../one/../one/../one/../one/../one/../one/../one": 8, "/one/back/one/back/one/back/one/back": 8,
		"/four/top/one": 8, "/four/here/here": 8, "/three/../three/../two": 8,
	} {
		for more := range 10 {
			s := path
			if strings.HasSuffix(path, "back") || path == "" {
				s += "/d"
			}
			s += strings.Repeat("/here", more)
			if links+more > maxHops {
				b.fails(s+"/x", loop)
				b.fails(s+"/last", loop)
				b.fails(s+"/..", loop)
				continue
			}
			b.leads(s+"/x", at(d, "x", 0))
			b.leads(s+"/..", self(1))
			// A ninth link that isn't followed is none too many.
			b.is(root, s+"/last", false, at(d, "last", last), accepted)
			if links+more == maxHops {
				b.is(root, s+"/last", true, api.Found{}, loop)
				b.fails(s+"/last/", loop)
				b.fails(s+"/last/x", loop)
			} else {
				b.is(root, s+"/last", true, at(d, "x", 0), accepted)
				b.leads(s+"/last/", must(d, "x", 0))
				b.fails(s+"/last/x", none)
			}
		}
	}
}

// P15.1: an empty link is ErrNone as long as it isn't the ninth one; that one is ErrLoop.
func TestHopsEmpty(t *testing.T) {
	b := opened(t)
	empty := b.link(1, "empty", "")
	b.link(1, "here", ".")
	b.link(1, "l1", "empty")
	for k := 2; k <= maxHops+2; k++ {
		b.link(1, fmt.Sprint("l", k), fmt.Sprint("l", k-1))
	}
	for links := range maxHops + 2 {
		want := none
		if links >= maxHops {
			want = loop
		}
		paths := []string{strings.Repeat("/here", links) + "/empty"}
		if links > 0 {
			paths = append(paths, fmt.Sprint("/l", links))
		}
		for _, path := range paths {
			b.is(root, path, true, api.Found{}, want)
			for _, more := range []string{"/", "/.", "/..", "/x", "/here"} {
				b.fails(path+more, want)
			}
		}
		is, e := at(1, "empty", empty), accepted
		if links > maxHops {
			is, e = api.Found{}, loop
		}
		b.is(root, paths[0], false, is, e)
	}
}

// P15.1: links to themselves and to each other, in rings of each length, and ways into them.
func TestRings(t *testing.T) {
	for ring := 1; ring <= 10; ring++ {
		for _, text := range []string{"r%d", "./r%d", "/r%d", "d/../r%d", "/d/../r%d", "r%d/", "r%d/x", "r%d/..", "d/k/r%d", "/d/./k/d/k/r%d"} {
			b := opened(t)
			d := b.dir(1, "d")
			if n := strings.Count(text, "k"); n > 0 {
				b.link(d, "k", "..")
			}
			for k := range ring {
				b.link(1, fmt.Sprint("r", k), fmt.Sprintf(text, (k+1)%ring))
			}
			l := b.link(d, "in", "../r0")
			b.is(root, "/d/in", false, at(d, "in", l), accepted)
			for _, path := range []string{"/d/in", "/r0", fmt.Sprint("/r", ring-1), "/d/../r0"} {
				b.is(root, path, true, api.Found{}, loop)
				for _, more := range []string{"/", "/.", "/..", "/x"} {
					b.fails(path+more, loop)
				}
			}
			b.leads("/d", at(1, "d", d))
		}
	}
}

// P15.1: links on mounts: what they have in front counts from the directory in which they are, and the top is that of the
// first mount.
func TestLinksOnMounts(t *testing.T) {
	b := opened(t)
	m := b.dir(1, "m")
	under := b.link(m, "l", "under")
	b.is(root, "/m/l", false, at(m, "l", under), accepted)
	over := b.cover(m)
	sub := b.dir(over, "sub")
	for text, want := range map[string]api.Found{
		"x": at(sub, "x", 0), "../x": at(over, "x", 0), "../../x": at(1, "x", 0), "../../../x": at(1, "x", 0), "/x": at(1, "x", 0), "/": self(1), "..": self(over),
		"../..": self(1), "/m": at(1, "m", over), "/m/": must(1, "m", over), "/m/sub": at(over, "sub", sub), "../../m": at(1, "m", over), "/m/..": self(1), ".": self(sub),
	} {
		l := b.link(sub, "l", text)
		b.is(root, "/m/sub/l", false, at(sub, "l", l), accepted)
		b.is(root, "/m/sub/l", true, want, accepted)
		b.link(1, "k", "m/sub/l")
		b.is(root, "/k", true, want, accepted)
	}
}

// P15.1: a link that has a name in another directory leads from there, and one with a mode that allows nothing leads, too.
func TestLinkElsewhere(t *testing.T) {
	b := opened(t)
	a, d := b.dir(1, "a"), b.dir(1, "d")
	f, g := b.file(a, "x"), b.file(d, "x")
	l := b.link(a, "l", "x")
	b.name(d, "k", l)
	b.name(1, "l", l)
	c := api.Cred{UID: 5, GID: 5}
	b.is(c, "/a/l", true, at(a, "x", f), accepted)
	b.is(c, "/d/k", true, at(d, "x", g), accepted)
	b.is(c, "/l", true, at(1, "x", 0), accepted)
	b.is(c, "/a/l", false, at(a, "l", l), accepted)
	b.is(c, "/d/k", false, at(d, "k", l), accepted)
}

// P15.1: a text with bytes that no name has, which a World doesn't forbid, is looked up as it stands.
func TestOddTexts(t *testing.T) {
	b := opened(t)
	for _, s := range []string{"\x00", "a\x00b", "\xff\xfe", "\n", "\\", "%2f", "~", "$x", "*"} {
		b.link(1, "l", s)
		b.is(root, "/l", true, at(1, s, 0), accepted)
		b.link(1, "l", "./"+s+"/")
		b.is(root, "/l", true, must(1, s, 0), accepted)
		b.link(1, "l", s+"/..")
		b.is(root, "/l", true, api.Found{}, none)
	}
	f := b.file(1, "a\x00b")
	b.link(1, "l", "a\x00b")
	b.is(root, "/l", true, at(1, "a\x00b", f), accepted)
	long := letters(200) + "\x00" + letters(55)
	b.file(1, long)
	b.link(1, "l", long)
	b.is(root, "/l", true, api.Found{}, tooLong)
	b.fails("/l/x", tooLong)
}

// crowd is a world in which all that the promise tells apart is there, with few and short names.
func crowd(t *testing.T) *both {
	b := opened(t)
	a := b.dir(1, "a")
	shut := b.put(a, "s", api.Node{Kind: dirKind, Mode: 0o610})
	b.file(shut, "f")
	b.dir(shut, "a")
	b.link(shut, "l", "..")
	b.file(a, "f")
	m := b.dir(a, "m")
	b.dir(m, "a")
	over := b.cover(m)
	b.link(over, "l", "../l")
	b.file(over, "f")
	b.cover(b.dir(over, "m"))
	b.link(over, "s", "/a/s")
	b.link(a, "l", "m/")
	b.link(1, "l", "a/l/.")
	b.file(1, "f")
	b.link(1, "s", "s")
	b.link(1, "m", "a/m/x")
	b.name(a, "x", 999)
	return b
}

// texts is all texts of up to n of some parts, one behind the other.
func texts(n int, parts ...string) []string {
	all := []string{""}
	for from := 0; n > 0; n-- {
		to := len(all)
		for _, s := range all[from:to] {
			for _, part := range parts {
				all = append(all, s+part)
			}
		}
		from = to
	}
	return all
}

// P15.1: all paths of up to five parts in one world, for each kind of user.
func TestAllPaths(t *testing.T) {
	b := crowd(t)
	cs := []api.Cred{root, {UID: 5, GID: 6}, {UID: 5, GID: 0}}
	for _, path := range texts(5, "/a", "/f", "/l", "/m", "/s", "/x", "/..", "/", "/.") {
		for _, c := range cs {
			b.drawn(c, path, false)
			b.drawn(c, path, true)
		}
	}
	b.same()
}

// P15.1: all texts of up to four parts in a link, at each of three places, on all ways into it.
func TestAllTexts(t *testing.T) {
	b := crowd(t)
	c := api.Cred{UID: 5, GID: 6}
	a := b.p.named(b.p.nodes[1], "a")
	over := b.p.named(b.p.nodes[a], "m")
	for _, dir := range []int{1, a, over} {
		no := b.link(dir, "k", "")
		n := b.p.nodes[no]
		for _, text := range texts(4, "a", "l", "m", "f", "/", "..", ".", "k") {
			n.Data = text
			b.set(n)
			for _, path := range []string{"/k", "/k/", "/k/x", "/a/k", "/a/k/.", "/a/k/..", "/a/m/k", "/a/m/k/f", "/k/k", "/a/k/k/k"} {
				b.drawn(root, path, false)
				b.drawn(c, path, true)
			}
		}
	}
	b.same()
}

// names are those that drawn directories have, and drawn paths ask for.
var names = []string{"a", "b", "c", "d", "e", letters(maxName), letters(maxName + 1)}

// pick is one of a list, drawn by r.
func pick[T any](r *rand.Rand, l ...T) T { return l[r.IntN(len(l))] }

// text draws a text of up to n components, as a path or a link may have it.
func text(r *rand.Rand, n int) string {
	var l []string
	for range r.IntN(n + 1) {
		switch i := r.IntN(40); {
		case i < 30:
			l = append(l, names[r.IntN(5)])
		case i < 31:
			l = append(l, pick(r, names...))
		case i < 36:
			l = append(l, "..")
		default:
			l = append(l, pick(r, "", ".", ".", "none", "..."))
		}
	}
	s := strings.Join(l, "/")
	if r.IntN(8) == 0 {
		s += pick(r, "/", "//", "/.", "/..", "/./")
	}
	return s
}

// someone draws a user.
func someone(r *rand.Rand) api.Cred { return api.Cred{UID: r.IntN(3), GID: r.IntN(3)} }

// mode draws one in which most may search.
func mode(r *rand.Rand) int {
	if r.IntN(6) == 0 {
		return r.IntN(1024)
	}
	return r.IntN(1024) | 0o111
}

// grow draws a node, and has it come into a drawn directory of a world.
func grow(b *both, r *rand.Rand) {
	b.Helper()
	dir := 1 + r.IntN(len(b.p.nodes))
	if b.p.nodes[dir].Kind != dirKind {
		return
	}
	n := api.Node{Kind: dirKind, Mode: mode(r), UID: r.IntN(3), GID: r.IntN(3)}
	switch i := r.IntN(20); {
	case i < 5:
		n.Kind, n.Data = linkKind, pick(r, "", "", "/", "/")+text(r, 3)
	case i < 7:
		n.Kind = fileKind
	case i < 8:
		n.Kind = pick(r, 0, 4, 5, -1)
	}
	no := b.put(dir, pick(r, names...), n)
	if n.Kind == dirKind && len(b.p.over) < maxMounts-1 && r.IntN(6) == 0 {
		b.cover(no)
	}
}

// upset draws a change of what is in a world: a further name, a node that goes, another Up, mode or owner.
func upset(b *both, r *rand.Rand) {
	b.Helper()
	no := 1 + r.IntN(len(b.p.nodes))
	n, ok := b.p.nodes[no]
	switch i := r.IntN(8); {
	case !ok:
	case i < 3 && n.Kind == dirKind:
		b.name(no, pick(r, names...), r.IntN(len(b.p.nodes)+3)-1)
	case i < 5:
		b.change(no, mode(r), r.IntN(3), r.IntN(3))
	case i < 6 && n.Kind == dirKind:
		n.Up = r.IntN(len(b.p.nodes) + 2)
		b.set(n)
	case i < 7 && b.w.Root(n.Dev) != no:
		b.kill(no)
	}
}

// world draws a world.
func world(t *testing.T, r *rand.Rand) *both {
	t.Helper()
	b := opened(t)
	for range 5 + r.IntN(60) {
		grow(b, r)
	}
	if r.IntN(2) == 0 {
		for range r.IntN(10) {
			upset(b, r)
		}
	}
	return b
}

// sort is which sort of answer one is: of each of them, long sequences ought to have some.
func sort(b *both, f api.Found, e api.Errno) string {
	switch {
	case e != accepted:
		return fmt.Sprint("error ", e)
	case f.Name == "":
		return "no name"
	case f.No == 0:
		return fmt.Sprint("nothing there, ", f.Slash)
	}
	n, ok := b.p.nodes[f.No]
	if !ok {
		return fmt.Sprint("a number without a node, ", f.Slash)
	} else if n.Kind < dirKind || n.Kind > linkKind {
		return fmt.Sprint("another kind, ", f.Slash)
	}
	return fmt.Sprint("kind ", n.Kind, ", ", f.Slash)
}

// P15.1: long sequences of drawn worlds, changes, paths and users, held against a plain world.
func TestDrawn(t *testing.T) {
	r := rand.New(rand.NewPCG(15, 1))
	found := map[string]int{}
	mounted := 0
	for range 400 {
		b := world(t, r)
		for k := range 300 {
			path := pick(r, "/", "/", "/", "/", "/", "/", "//", "/./", "/../", "") + text(r, 6)
			follow := r.IntN(2) == 0
			f, e := b.drawn(someone(r), path, follow)
			found[sort(b, f, e)]++
			if f.Dir > 0 && b.p.nodes[f.Dir].Dev > 1 {
				mounted++
			}
			if k%30 == 29 {
				upset(b, r)
			}
		}
		b.same()
	}
	sorts := []string{
		"error 1", "error 5", "error 6", "error 9", "error 12", "error 13", "no name", "nothing there, false", "nothing there, true",
		"kind 1, false", "kind 1, true", "kind 2, false", "kind 3, false", "another kind, false", "a number without a node, false",
	}
	for _, s := range sorts {
		if found[s] < 50 {
			t.Errorf("only %d answers are of the sort %q", found[s], s)
		}
	}
	if len(found) != len(sorts) || mounted < 500 {
		t.Errorf("%v, %d on a mount", found, mounted)
	}
}

// P15.1: more slashes and points change nothing, and behind one of them follow doesn't either.
func TestSameDirectory(t *testing.T) {
	r := rand.New(rand.NewPCG(15, 2))
	for range 300 {
		b := world(t, r)
		for range 100 {
			c, path, follow := someone(r), "/"+text(r, 5), r.IntN(2) == 0
			f, e := seek.Path(b.w, c, path, follow)
			last := strings.LastIndex(path, "/") + 1
			for _, more := range []string{"/", "./", "././/"} {
				for _, other := range []string{path[:last] + more + path[last:], "/" + more + path[1:]} {
					if g, is := seek.Path(b.w, c, other, follow); g != f || is != e {
						t.Fatalf("Path(%v, %s, %v) = %+v, %d, but of %s %+v, %d", c, short(path), follow, f, e, short(other), g, is)
					}
				}
			}
			f, e = seek.Path(b.w, c, path+"/", follow)
			if g, is := seek.Path(b.w, c, path+"/.", !follow); g != f || is != e || e == accepted && !f.Slash {
				t.Fatalf("Path(%v, %s/) = %+v, %d, but with a point %+v, %d", c, short(path), f, e, g, is)
			}
		}
	}
}

// P15.1: a link that is followed leads where its text does, put into the path in its place; only that one link more counts.
func TestSameLink(t *testing.T) {
	r := rand.New(rand.NewPCG(15, 3))
	replaced := 0
	for range 500 {
		b := world(t, r)
		for range 100 {
			c, path := someone(r), "/"+text(r, 5)
			f, e := seek.Path(b.w, c, path, false)
			n := b.p.nodes[f.No]
			if e != accepted || f.Name == "" || n.Kind != linkKind || len(pieces(n.Data)) == 0 {
				continue
			}
			other := path[:strings.LastIndex(path, "/")+1] + n.Data
			if n.Data[0] == '/' {
				other = n.Data
			}
			f, e = seek.Path(b.w, c, path, true)
			if g, is := seek.Path(b.w, c, other, true); e != loop && (g != f || is != e) {
				t.Fatalf("Path(%v, %s, true) = %+v, %d, but of %s %+v, %d", c, short(path), f, e, short(other), g, is)
			}
			replaced++
		}
	}
	if replaced < 500 {
		t.Errorf("only %d links were replaced", replaced)
	}
}

// R4, R5: what is asked changes nothing in a world, and neither do worlds beside each other: each answer comes again.
func TestAgain(t *testing.T) {
	r := rand.New(rand.NewPCG(15, 4))
	type question struct {
		b      *both
		c      api.Cred
		path   string
		follow bool
		f      api.Found
		e      api.Errno
	}
	var l []question
	for range 20 {
		b := world(t, r)
		for range 100 {
			q := question{b: b, c: someone(r), path: "/" + text(r, 6), follow: r.IntN(2) == 0}
			q.f, q.e = b.drawn(q.c, q.path, q.follow)
			l = append(l, q)
		}
	}
	for range 3 {
		r.Shuffle(len(l), func(i, j int) { l[i], l[j] = l[j], l[i] })
		for _, q := range l {
			if f, e := seek.Path(q.b.w, q.c, q.path, q.follow); f != q.f || e != q.e {
				t.Fatalf("Path(%v, %s, %v) = %+v, %d, and at first %+v, %d", q.c, short(q.path), q.follow, f, e, q.f, q.e)
			}
		}
	}
	for _, q := range l {
		q.b.same()
	}
}

// R1: each call ends without a panic, also for a World that New did not create, and for entries that are none by chapter 11.
func TestAnyhow(t *testing.T) {
	paths := texts(4, "/a", "/b", "/..", "/", "/"+letters(256))
	for _, path := range paths {
		f, e := seek.Path(&mount.World{}, root, path, true)
		if e == accepted && f.Name != "" || e != accepted && f != (api.Found{}) {
			t.Errorf("Path(%s) = %+v, %d in a World that New did not create", short(path), f, e)
		}
	}
	for _, l := range [][]api.Ent{
		{{Name: "b", No: 2}, {Name: "a", No: 1}}, {{Name: "a", No: 1}, {Name: "a", No: 2}}, {{Name: "", No: 2}, {Name: "..", No: 2}, {Name: "a/b", No: 2}},
		{{Name: "..", No: 3}, {Name: ".", No: 3}}, {{Name: "a", No: math.MinInt}, {Name: "b", No: math.MaxInt}}, {{Name: "a", No: 3}, {Name: "b", No: 4}},
	} {
		b := opened(t)
		for _, n := range []api.Node{{Kind: dirKind, Up: math.MinInt}, {Kind: linkKind, Data: "a"}, {Kind: linkKind, Data: "/../b"}} {
			b.put(1, "x", n)
		}
		for no := range 3 {
			n := b.p.nodes[no+1]
			n.Ents = l
			b.set(n)
			for _, path := range paths {
				seek.Path(b.w, root, path, no%2 == 0)
				seek.Path(b.w, api.Cred{UID: math.MinInt, GID: math.MaxInt}, path, no%2 == 1)
			}
		}
	}
}

// R1: entries named as no name is are never looked up: "." and ".." have meanings of their own.
func TestOddEntries(t *testing.T) {
	b := opened(t)
	a := b.dir(1, "a")
	f := b.file(a, "f")
	for _, s := range []string{"", ".", ".."} {
		b.name(a, s, f)
	}
	b.leads("/a/..", self(1))
	b.leads("/a/.", must(1, "a", a))
	b.leads("/a/", must(1, "a", a))
	b.leads("/a//f", at(a, "f", f))
}

// P15.1: long texts of links, in many steps, and directories of many entries, don't take longer than their lengths.
func TestTime(t *testing.T) {
	begun := time.Now()
	b := opened(t)
	d := b.dir(1, "d")
	far := strings.Repeat("d/../", 30000)
	for k := range maxHops {
		b.link(1, fmt.Sprint("l", k), far+fmt.Sprint("l", k+1))
	}
	b.link(1, fmt.Sprint("l", maxHops), far+"d/x")
	b.is(root, "/l1", true, at(d, "x", 0), accepted)
	b.is(root, "/l0", true, api.Found{}, loop)
	n := b.p.nodes[d]
	for k := range 10000 {
		n.Ents = append(n.Ents, api.Ent{Name: fmt.Sprintf("%05d", k), No: 1})
	}
	b.set(n)
	b.leads(strings.Repeat("/d/..", 800)+"/d/10000", at(d, "10000", 0))
	if took := time.Since(begun); took > time.Minute {
		t.Errorf("it took %v", took)
	}
}

// P15.1, beyond the tests above: a world that is drawn, and a path whose bytes stand for parts of it, and for themselves.
func FuzzSeek(f *testing.F) {
	for _, s := range []string{"", "/", "/a", "/a/b/../c/", "a", "/.", "/..", "//a//.", "/d/e/d/e", "/\x00", "/abc/def", "/" + letters(maxName+1), strings.Repeat("/a", 2048)} {
		f.Add(s, uint64(1), 0, 0, true)
		f.Add(s, uint64(2), 1, 2, false)
	}
	f.Fuzz(func(t *testing.T, s string, seed uint64, uid, gid int, follow bool) {
		b := world(t, rand.New(rand.NewPCG(15, seed)))
		c := api.Cred{UID: uid, GID: gid}
		b.drawn(c, s, follow)
		// The same bytes as parts: each path of a file system has many of them.
		var parts []string
		for _, x := range []byte(s) {
			parts = append(parts, pick(rand.New(rand.NewPCG(0, uint64(x))), append(names, "", ".", "..", "none")...))
		}
		b.drawn(c, "/"+strings.Join(parts, "/"), follow)
		l := b.link(1, "k", s)
		b.name(1, "a", l)
		b.drawn(c, "/k", follow)
		b.drawn(c, "/a/b", follow)
		b.same()
	})
}
