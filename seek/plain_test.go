package seek_test

import (
	"fmt"
	"math"
	"reflect"
	"slices"
	"strings"
	"testing"

	"ragpicker/api"
	"ragpicker/mount"
	"ragpicker/seek"
)

// The document's numbers, written out.
const (
	maxName   = 255
	maxPath   = 4096
	maxHops   = 8
	maxMounts = 8
)

// The errors that a resolution may end with, written out.
const (
	wrong    = api.Errno(1)
	none     = api.Errno(5)
	access   = api.Errno(6)
	notDir   = api.Errno(9)
	loop     = api.Errno(12)
	tooLong  = api.Errno(13)
	accepted = api.Errno(0)
)

// The kinds of nodes, written out.
const (
	dirKind  = 1
	fileKind = 2
	linkKind = 3
)

// root is the user who may do everything.
var root = api.Cred{}

// plain is what a world ought to be: its nodes by their numbers, and the root over each directory that is covered.
type plain struct {
	nodes map[int]api.Node
	over  map[int]int
}

// pieces is a text's components, but for the empty ones and ".".
func pieces(text string) []string {
	var l []string
	for _, s := range strings.Split(text, "/") {
		if s != "" && s != "." {
			l = append(l, s)
		}
	}
	return l
}

// onlyDir tells whether nothing but a directory can be at the end of a text.
func onlyDir(text string) bool {
	for _, end := range []string{"/", "/.", "/.."} {
		if strings.HasSuffix("/"+text, end) {
			return true
		}
	}
	return false
}

// searches tells whether somebody has Search permission, by the digits of a mode.
func searches(c api.Cred, n api.Node) bool {
	digits := fmt.Sprintf("%04o", n.Mode&0o777)
	digit := digits[3]
	if c.GID == n.GID {
		digit = digits[2]
	}
	if c.UID == n.UID {
		digit = digits[1]
	}
	return c.UID == 0 || strings.ContainsRune("1357", rune(digit))
}

// above is the directory above one, by chapter 14.
func (p plain) above(no int) int {
	for at, root := range p.over {
		if root == no {
			return p.nodes[at].Up
		}
	}
	return p.nodes[no].Up
}

// named is the number of a name in a directory's entries, or of the root over it; 0: there is no such name.
func (p plain) named(n api.Node, s string) int {
	for _, x := range n.Ents {
		if x.Name == s && p.over[x.No] != 0 {
			return p.over[x.No]
		} else if x.Name == s {
			return x.No
		}
	}
	return 0
}

// seeker is who resolves a path in a plain world.
type seeker struct {
	plain
	c      api.Cred
	follow bool
}

// path is what Path ought to be, by P15.1.
func (q seeker) path(s string) (api.Found, api.Errno) {
	switch {
	case s == "":
		return api.Found{}, none
	case s[0] != '/', strings.Count(s, "\x00") > 0:
		return api.Found{}, wrong
	case len(s) > maxPath:
		return api.Found{}, tooLong
	}
	return q.from(1, pieces(s), onlyDir(s), maxHops)
}

// from is how a resolution goes on from a directory, with the components that remain and the links that may be followed.
func (q seeker) from(here int, parts []string, must bool, hops int) (api.Found, api.Errno) {
	if len(parts) == 0 {
		return api.Found{No: here, Slash: true}, accepted
	}
	n, part, rest := q.nodes[here], parts[0], parts[1:]
	switch {
	case n.Kind != dirKind:
		return api.Found{}, notDir
	case !searches(q.c, n):
		return api.Found{}, access
	case part == "..":
		return q.from(q.above(here), rest, must, hops)
	case len(part) > maxName:
		return api.Found{}, tooLong
	}
	no := q.named(n, part)
	kind, text := q.nodes[no].Kind, q.nodes[no].Data
	if kind == linkKind && (len(rest) > 0 || must || q.follow) {
		if hops == 0 {
			return api.Found{}, loop
		}
		if text == "" {
			return api.Found{}, none
		}
		if len(rest) == 0 {
			must = must || onlyDir(text)
		}
		if text[0] == '/' {
			here = 1
		}
		return q.from(here, append(pieces(text), rest...), must, hops-1)
	}
	switch {
	case len(rest) > 0 && no == 0:
		return api.Found{}, none
	case len(rest) > 0 && kind == dirKind:
		return q.from(no, rest, must, hops)
	case len(rest) > 0, must && no != 0 && kind != dirKind:
		return api.Found{}, notDir
	}
	return api.Found{Dir: here, Name: part, No: no, Slash: must}, accepted
}

// both is a world, and what it ought to be.
type both struct {
	*testing.T
	w *mount.World
	p plain
}

// opened is a new world with its plain one: the top alone, which is node 1.
func opened(t *testing.T) *both {
	t.Helper()
	w, e := mount.New(100000, 60000)
	if e != accepted {
		t.Fatal(e)
	}
	b := &both{T: t, w: w, p: plain{nodes: map[int]api.Node{}, over: map[int]int{}}}
	b.p.nodes[1], _ = w.Get(1)
	return b
}

// set puts a node in the place of the one with its number.
func (b *both) set(n api.Node) {
	b.Helper()
	if !b.w.Set(n) {
		b.Fatalf("a fault of this test: there is no node %d", n.No)
	}
	b.p.nodes[n.No] = n
}

// name puts a name for a number into a directory.
func (b *both) name(dir int, s string, no int) {
	b.Helper()
	n := b.p.nodes[dir]
	l := slices.DeleteFunc(slices.Clone(n.Ents), func(x api.Ent) bool { return x.Name == s })
	l = append(l, api.Ent{Name: s, No: no})
	slices.SortFunc(l, func(x, y api.Ent) int { return strings.Compare(x.Name, y.Name) })
	n.Ents = l
	b.set(n)
}

// put makes a node with a name in a directory, on its mount, and, if it is a directory as well, below it.
func (b *both) put(dir int, s string, n api.Node) int {
	b.Helper()
	n.Dev, n.Links = b.p.nodes[dir].Dev, 1
	if n.Kind == dirKind {
		n.Up = dir
	}
	no, e := b.w.Make(n)
	if e != accepted {
		b.Fatalf("a fault of this test: Make = %d", e)
	}
	n.No = no
	b.p.nodes[no] = n
	b.name(dir, s, no)
	return no
}

// dir makes a directory in which everybody may search.
func (b *both) dir(dir int, s string) int {
	b.Helper()
	return b.put(dir, s, api.Node{Kind: dirKind, Mode: 0o711})
}

// file makes a file with which nobody may do anything.
func (b *both) file(dir int, s string) int {
	b.Helper()
	return b.put(dir, s, api.Node{Kind: fileKind, Data: "/d"})
}

// link makes a link with which nobody may do anything.
func (b *both) link(dir int, s, text string) int {
	b.Helper()
	return b.put(dir, s, api.Node{Kind: linkKind, Data: text})
}

// cover has a mount cover a directory: its root.
func (b *both) cover(no int) int {
	b.Helper()
	over, e := b.w.Mount(no, 1000, 1000)
	if e != accepted {
		b.Fatalf("a fault of this test: Mount = %d", e)
	}
	b.p.nodes[over], _ = b.w.Get(over)
	b.p.over[no] = over
	return over
}

// kill takes a node away, but none of its names.
func (b *both) kill(no int) {
	b.Helper()
	if !b.w.Kill(no) {
		b.Fatalf("a fault of this test: there is no node %d", no)
	}
	delete(b.p.nodes, no)
}

// change changes a node's mode and owner.
func (b *both) change(no, mode, uid, gid int) {
	b.Helper()
	n := b.p.nodes[no]
	n.Mode, n.UID, n.GID = mode, uid, gid
	b.set(n)
}

// at is the answer for a name that need not be a directory.
func at(dir int, s string, no int) api.Found { return api.Found{Dir: dir, Name: s, No: no} }

// must is the answer for a name that must be a directory.
func must(dir int, s string, no int) api.Found {
	return api.Found{Dir: dir, Name: s, No: no, Slash: true}
}

// self is the answer for what has no name.
func self(no int) api.Found { return api.Found{No: no, Slash: true} }

// short is a path for a message.
func short(s string) string {
	if len(s) > 200 {
		return fmt.Sprintf("%q.. (%d bytes)", s[:200], len(s))
	}
	return fmt.Sprintf("%q", s)
}

// is holds an answer against what it ought to be, by the test and by the plain world.
func (b *both) is(c api.Cred, path string, follow bool, want api.Found, e api.Errno) {
	b.Helper()
	if got, is := (seeker{b.p, c, follow}).path(path); got != want || is != e {
		b.Fatalf("the plain world and the test are of two minds: Path(%v, %s, %v) = %+v, %d or %+v, %d", c, short(path), follow, got, is, want, e)
	}
	if got, is := seek.Path(b.w, c, path, follow); got != want || is != e {
		b.Errorf("Path(%v, %s, %v) = %+v, %d, want %+v, %d", c, short(path), follow, got, is, want, e)
	}
}

// leads holds the answer for user 0, which is the same with follow and without it.
func (b *both) leads(path string, want api.Found) {
	b.Helper()
	for _, follow := range []bool{false, true} {
		b.is(root, path, follow, want, accepted)
	}
}

// fails holds the error for user 0, which is the same with follow and without it.
func (b *both) fails(path string, e api.Errno) {
	b.Helper()
	for _, follow := range []bool{false, true} {
		b.is(root, path, follow, api.Found{}, e)
	}
}

// drawn holds an answer against the plain world's, and is that.
func (b *both) drawn(c api.Cred, path string, follow bool) (api.Found, api.Errno) {
	b.Helper()
	want, e := (seeker{b.p, c, follow}).path(path)
	if got, is := seek.Path(b.w, c, path, follow); got != want || is != e {
		b.Fatalf("Path(%v, %s, %v) = %+v, %d, want %+v, %d\n%s", c, short(path), follow, got, is, want, e, b.told())
	}
	return want, e
}

// told is the nodes of a world, for a message.
func (b *both) told() string {
	s := fmt.Sprintln("covered:", b.p.over)
	for no := range 100 {
		if n, ok := b.p.nodes[no]; ok && len(n.Data) < 500 {
			s += fmt.Sprintf("%+v\n", n)
		}
	}
	return s
}

// same holds that a world is still what it ought to be.
func (b *both) same() {
	b.Helper()
	for n := range b.w.All() {
		want := b.p.nodes[n.No]
		n.Ents, want.Ents = append([]api.Ent(nil), n.Ents...), append([]api.Ent(nil), want.Ents...)
		if !reflect.DeepEqual(n, want) {
			b.Fatalf("node %d is %+v, want %+v", n.No, n, want)
		}
	}
	if b.w.Len() != len(b.p.nodes) || b.w.Devs() != len(b.p.over)+1 {
		b.Fatalf("Len() = %d, Devs() = %d, want %d, %d", b.w.Len(), b.w.Devs(), len(b.p.nodes), len(b.p.over)+1)
	}
}

// letters is a text of n bytes.
func letters(n int) string { return strings.Repeat("n", n) }

// numbers are some that no node of a small world has.
var numbers = []int{math.MinInt, -1 << 32, -2, -1, 999, 1 << 32, 1<<32 + 1, math.MaxInt}
