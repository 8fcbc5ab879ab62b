package peek_test

import (
	"fmt"
	"io/fs"
	"math"
	"reflect"
	"slices"
	"strings"
	"testing"

	"ragpicker/api"
	"ragpicker/mount"
	"ragpicker/peek"
)

// The errors that are answered, written out.
const (
	accepted = api.Errno(0)
	wrong    = api.Errno(1)
	none     = api.Errno(5)
	access   = api.Errno(6)
	isDir    = api.Errno(8)
	notDir   = api.Errno(9)
)

// The kinds of nodes, written out.
const (
	dirKind  = 1
	fileKind = 2
	linkKind = 3
)

// maxMounts is the document's number, written out.
const maxMounts = 8

// root is the user who may do everything.
var root = api.Cred{}

// users are of each sort for a node of user 5 and group 6, and some who aren't Fine.
var users = []api.Cred{
	{UID: 5, GID: 6}, {UID: 5, GID: 9}, {UID: 7, GID: 6}, {UID: 7, GID: 9}, {UID: 6, GID: 5}, {UID: 0, GID: 9}, {}, {UID: 7, GID: 0},
	{UID: -1, GID: -1}, {UID: math.MaxInt, GID: math.MinInt},
}

// nowhere are numbers that no node of a small world has.
var nowhere = []int{math.MinInt, -1<<32 + 1, -2, -1, 0, 9999, 1<<32 + 1, 1<<32 + 2, math.MaxInt}

// others are kinds that no node has by the document, but may be made with.
var others = []int{0, 4, 5, -1, -2, math.MinInt, math.MaxInt, 1<<32 + 1, 1<<32 + 2, 1<<32 + 3}

// odd are texts that are no names.
var odd = []string{"", ".", "..", "/", "/a", "a/", "a/b", "a\x00", "\x00", strings.Repeat("a", 256), strings.Repeat("a", 5000), strings.Repeat("a/", 5000)}

// question is a call: of which function, for whom (Stat and Target aren't told), of which number, and, for Look, of which
// name.
type question struct {
	what string
	c    api.Cred
	no   int
	name string
}

func stat(no int) question             { return question{what: "Stat", no: no} }
func list(c api.Cred, no int) question { return question{what: "List", c: c, no: no} }
func read(c api.Cred, no int) question { return question{what: "Read", c: c, no: no} }
func target(no int) question           { return question{what: "Target", no: no} }
func look(c api.Cred, no int, s string) question {
	return question{what: "Look", c: c, no: no, name: s}
}

// all is a call of each function.
func all(c api.Cred, no int, s string) []question {
	return []question{stat(no), list(c, no), read(c, no), target(no), look(c, no, s)}
}

// String is a question for a message.
func (q question) String() string {
	return fmt.Sprintf("%s(w, %v, %d, %.200q)", q.what, q.c, q.no, q.name)
}

// answer is what a call answers.
type answer struct {
	stat api.Stat
	list []api.Ent
	text string
	no   int
	e    api.Errno
}

// equal tells whether two answers are the same; a list without entries may be nil or not.
func (a answer) equal(b answer) bool {
	return a.stat == b.stat && slices.Equal(a.list, b.list) && a.text == b.text && a.no == b.no && a.e == b.e
}

// String is an answer for a message.
func (a answer) String() string {
	return fmt.Sprintf("%+v, %.500s, %.200q, %d, error %d", a.stat, fmt.Sprint(a.list), a.text, a.no, a.e)
}

// ask calls the function in a world.
func (q question) ask(w *mount.World) (a answer) {
	switch q.what {
	case "Stat":
		a.stat, a.e = peek.Stat(w, q.no)
	case "List":
		a.list, a.e = peek.List(w, q.c, q.no)
	case "Read":
		a.text, a.e = peek.Read(w, q.c, q.no)
	case "Target":
		a.text, a.e = peek.Target(w, q.no)
	case "Look":
		a.no, a.e = peek.Look(w, q.c, q.no, q.name)
	default:
		panic("a fault of this test: " + q.what)
	}
	return a
}

// plain is what a world ought to be: its nodes by their numbers, and the root over each directory that is covered.
type plain struct {
	nodes map[int]api.Node
	over  map[int]int
}

// may tells whether a mode, as it is told of a file, has a letter for somebody.
func may(c api.Cred, n api.Node, letter string) bool {
	letters := fs.FileMode(n.Mode & 0o777).String()[1:]
	who := letters[6:]
	if c.GID == n.GID {
		who = letters[3:6]
	}
	if c.UID == n.UID {
		who = letters[:3]
	}
	return c.UID == 0 || strings.Contains(who, letter)
}

// reached is the number that is reached by another one.
func (p plain) reached(no int) int {
	if over, ok := p.over[no]; ok {
		return over
	}
	return no
}

// answer is what a question's answer ought to be, by P16.1.
func (p plain) answer(q question) answer {
	n, ok := p.nodes[q.no]
	if !ok {
		return answer{e: none}
	}
	switch q.what {
	case "Stat":
		return answer{stat: api.Stat{
			No: q.no, Dev: n.Dev, Kind: n.Kind, Mode: n.Mode, UID: n.UID, GID: n.GID, Links: n.Links, Size: len(n.Data), Mtime: n.Mtime, Ctime: n.Ctime,
		}}
	case "List", "Look":
		return p.within(q, n)
	case "Read":
		switch {
		case n.Kind == dirKind:
			return answer{e: isDir}
		case n.Kind == linkKind:
			return answer{e: wrong}
		case !may(q.c, n, "r"):
			return answer{e: access}
		}
	case "Target":
		switch n.Kind {
		case dirKind:
			return answer{e: isDir}
		case fileKind:
			return answer{e: wrong}
		}
	}
	return answer{text: n.Data}
}

// within is what the answer of List and of Look ought to be.
func (p plain) within(q question, n api.Node) answer {
	if n.Kind != dirKind {
		return answer{e: notDir}
	}
	if q.what == "List" && !may(q.c, n, "r") || q.what == "Look" && !may(q.c, n, "x") {
		return answer{e: access}
	}
	var a answer
	for _, x := range n.Ents {
		if q.what == "List" {
			a.list = append(a.list, api.Ent{Name: x.Name, No: p.reached(x.No)})
		} else if x.Name == q.name {
			return answer{no: p.reached(x.No)}
		}
	}
	if q.what == "Look" {
		a.e = none
	}
	return a
}

// both is a world, and what it ought to be.
type both struct {
	*testing.T
	w *mount.World
	p plain
}

// opened is a new world with its plain one: the top alone, which is node 1.
func opened(t *testing.T) *both {
	t.Helper()
	w, e := mount.New(1000000, 60000)
	if e != accepted {
		t.Fatal(e)
	}
	b := &both{T: t, w: w, p: plain{nodes: map[int]api.Node{}, over: map[int]int{}}}
	b.p.nodes[1], _ = w.Get(1)
	return b
}

// set puts a node in the place of the one with its number.
func (b *both) set(n api.Node) {
	b.Helper()
	if !b.w.Set(n) {
		b.Fatalf("a fault of this test: there is no node %d", n.No)
	}
	b.p.nodes[n.No] = n
}

// make makes a node without a name.
func (b *both) make(n api.Node) int {
	b.Helper()
	no, e := b.w.Make(n)
	if e != accepted {
		b.Fatalf("a fault of this test: Make = %d", e)
	}
	n.No = no
	b.p.nodes[no] = n
	return no
}

// name puts a name for a number into a directory.
func (b *both) name(dir int, s string, no int) {
	b.Helper()
	n := b.p.nodes[dir]
	n.Ents = sorted(append(slices.DeleteFunc(slices.Clone(n.Ents), func(x api.Ent) bool { return x.Name == s }), api.Ent{Name: s, No: no}))
	b.set(n)
}

// sorted is entries in the order of their names.
func sorted(l []api.Ent) []api.Ent {
	slices.SortFunc(l, func(x, y api.Ent) int { return strings.Compare(x.Name, y.Name) })
	return l
}

// put makes a node with a name in a directory, on its mount.
func (b *both) put(dir int, s string, n api.Node) int {
	b.Helper()
	n.Dev, n.Links = b.p.nodes[dir].Dev, 1
	if n.Kind == dirKind {
		n.Up = dir
	}
	no := b.make(n)
	b.name(dir, s, no)
	return no
}

// dir makes a directory with which everybody may do everything.
func (b *both) dir(dir int, s string) int {
	b.Helper()
	return b.put(dir, s, api.Node{Kind: dirKind, Mode: 0o777})
}

// file makes a file that everybody may read.
func (b *both) file(dir int, s, data string) int {
	b.Helper()
	return b.put(dir, s, api.Node{Kind: fileKind, Mode: 0o444, Data: data})
}

// link makes a link with which nobody may do anything.
func (b *both) link(dir int, s, text string) int {
	b.Helper()
	return b.put(dir, s, api.Node{Kind: linkKind, Data: text})
}

// cover has a mount cover a directory: its root.
func (b *both) cover(no int) int {
	b.Helper()
	over, e := b.w.Mount(no, 1000, 1000)
	if e != accepted {
		b.Fatalf("a fault of this test: Mount = %d", e)
	}
	b.p.nodes[over], _ = b.w.Get(over)
	b.p.over[no] = over
	return over
}

// kill takes a node away, but none of its names.
func (b *both) kill(no int) {
	b.Helper()
	if !b.w.Kill(no) {
		b.Fatalf("a fault of this test: there is no node %d", no)
	}
	delete(b.p.nodes, no)
}

// fill puts other bytes into a node.
func (b *both) fill(no int, data string) {
	b.Helper()
	if e := b.w.Fill(no, data); e != accepted {
		b.Fatalf("a fault of this test: Fill = %d", e)
	}
	n := b.p.nodes[no]
	n.Data = data
	b.p.nodes[no] = n
}

// is holds an answer against what it ought to be, by the test and by the plain world.
func (b *both) is(q question, want answer) {
	b.Helper()
	if got := b.p.answer(q); !got.equal(want) {
		b.Fatalf("the plain world and the test are of two minds: %v = %v or %v", q, got, want)
	}
	if got := q.ask(b.w); !got.equal(want) {
		b.Errorf("%v = %v, want %v", q, got, want)
	}
}

// drawn holds an answer against the plain world's, and is that.
func (b *both) drawn(q question) answer {
	b.Helper()
	want := b.p.answer(q)
	if got := q.ask(b.w); !got.equal(want) {
		b.Fatalf("%v = %v, want %v\n%.5000s", q, got, want, told(b.w))
	}
	return want
}

// every holds the answers of each function, of each node and of some other numbers, against the plain world's, with the
// names of a directory and with one more.
func (b *both) every(c api.Cred) {
	b.Helper()
	for no := range b.p.nodes {
		for _, q := range all(c, no, "none") {
			b.drawn(q)
		}
		for _, x := range b.p.nodes[no].Ents {
			b.drawn(look(c, no, x.Name))
		}
	}
	for _, no := range nowhere {
		for _, q := range all(c, no, "a") {
			b.drawn(q)
		}
	}
}

// same holds that a world is still what it ought to be.
func (b *both) same() {
	b.Helper()
	for n := range b.w.All() {
		want := b.p.nodes[n.No]
		if !slices.Equal(n.Ents, want.Ents) {
			b.Fatalf("node %d has the entries %v, want %v", n.No, n.Ents, want.Ents)
		}
		n.Ents, want.Ents = nil, nil
		if !reflect.DeepEqual(n, want) {
			b.Fatalf("node %d is %+v, want %+v", n.No, n, want)
		}
	}
	if b.w.Len() != len(b.p.nodes) || b.w.Devs() != len(b.p.over)+1 {
		b.Fatalf("Len() = %d, Devs() = %d, want %d, %d", b.w.Len(), b.w.Devs(), len(b.p.nodes), len(b.p.over)+1)
	}
	for no, over := range b.p.over {
		if got := b.w.Over(no); got != over {
			b.Fatalf("Over(%d) = %d, want %d", no, got, over)
		}
	}
}

// told is all that can be asked of a world, as a text: also how much each mount has in use.
func told(w *mount.World) string {
	var s strings.Builder
	for n := range w.All() {
		path, ok := w.Where(n.No)
		fmt.Fprintf(&s, "%q over %d above %d where %q %v\n", fmt.Sprint(n), w.Over(n.No), w.Above(n.No), path, ok)
	}
	for d := range w.Devs() + 1 {
		fmt.Fprintln(&s, d, w.Root(d), w.Use(d))
	}
	return s.String()
}
