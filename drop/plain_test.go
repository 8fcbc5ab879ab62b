package drop_test

import (
	"fmt"
	"io/fs"
	"maps"
	"math"
	"slices"
	"strings"
	"testing"

	"ragpicker/api"
	"ragpicker/bring"
	"ragpicker/drop"
	"ragpicker/mount"
)

// The errors that are answered, written out.
const (
	accepted = api.Errno(0)
	wrong    = api.Errno(1)
	refused  = api.Errno(4)
	none     = api.Errno(5)
	access   = api.Errno(6)
	exists   = api.Errno(7)
	isDir    = api.Errno(8)
	notDir   = api.Errno(9)
	notEmpty = api.Errno(10)
	cross    = api.Errno(11)
	tooLong  = api.Errno(13)
	noSpace  = api.Errno(14)
	noNodes  = api.Errno(15)
	busy     = api.Errno(16)
	tooMany  = api.Errno(18)
)

// The kinds of nodes, written out.
const (
	dirKind  = 1
	fileKind = 2
	linkKind = 3
)

// sticky is the sticky bit, written out.
const sticky = 512

// The document's limits, written out.
const (
	maxMounts = 8
	maxLinks  = 1000
	maxName   = 255
)

// root is the user who may do everything.
var root = api.Cred{}

// users are of each sort for a node of user 5 and group 6, and some who aren't Fine.
var users = []api.Cred{
	{UID: 5, GID: 6}, {UID: 5, GID: 9}, {UID: 7, GID: 6}, {UID: 7, GID: 9}, {UID: 6, GID: 5}, {UID: 0, GID: 9}, {}, {UID: 7, GID: 0},
	{UID: -1, GID: -1}, {UID: math.MaxInt, GID: math.MinInt},
}

// nowhere are numbers that no node of a small world has.
var nowhere = []int{math.MinInt, -1<<32 + 1, -2, -1, 0, 9999, 1<<32 + 1, 1<<32 + 2, math.MaxInt}

// others are kinds that no node has by the document, but may be made with.
var others = []int{0, 4, 5, -1, -2, math.MinInt, math.MaxInt, 1<<32 + 1, 1<<32 + 2, 1<<32 + 3}

// noNames are texts that are no names, with their errors.
var noNames = map[string]api.Errno{
	"": wrong, ".": wrong, "..": wrong, "/": wrong, "/a": wrong, "a/": wrong, "a/b": wrong, "./a": wrong, "//": wrong, "a\x00": wrong,
	"\x00": wrong, "\x00a": wrong, "a\x00b": wrong, strings.Repeat("a", 256): tooLong, strings.Repeat("é", 128): tooLong,
	strings.Repeat(".", 256): tooLong, strings.Repeat("\xff", 1000): tooLong, strings.Repeat("a", 5000): tooLong,
	strings.Repeat("a", 256) + "/": wrong, "/" + strings.Repeat("a", 256): wrong, strings.Repeat("a", 255) + "\x00": wrong,
	"\x00" + strings.Repeat("a", 5000): wrong, strings.Repeat("a/", 5000): wrong,
}

// okNames are names that look like none.
var okNames = []string{
	"a", "...", "..a", ".a", "a.", "a..", " ", "a b", "\\", "\n", "\x01", "\x7f", "\xff", "\xc3\xa9", "e\u0301", "%2f", "~", "-", "*", "0",
	strings.Repeat("a", 255), strings.Repeat(".", 255), strings.Repeat("\xff", 255), strings.Repeat("é", 127) + "a",
}

// call is a call: of which function, and with what. What a function isn't handed isn't told.
type call struct {
	what     string
	c        api.Cred
	now, dir int
	name     string
	// node is handed to Less.
	node api.Node
	// The others are handed to functions of package bring.
	mode int
	data string
	no   int
	list []api.Ent
}

func leave(c api.Cred, dir int, s string) call {
	return call{what: "Leave", c: c, dir: dir, name: s}
}

func less(now int, n api.Node) call {
	return call{what: "Less", now: now, node: n}
}

func unlink(c api.Cred, now, dir int, s string) call {
	return call{what: "Unlink", c: c, now: now, dir: dir, name: s}
}

func rmdir(c api.Cred, now, dir int, s string) call {
	return call{what: "Rmdir", c: c, now: now, dir: dir, name: s}
}

func touch(dir, now int, l ...api.Ent) call {
	return call{what: "Touch", dir: dir, now: now, list: l}
}

func mkdir(c api.Cred, now, dir int, s string, mode int) call {
	return call{what: "Dir", c: c, now: now, dir: dir, name: s, mode: mode}
}

func mkfile(c api.Cred, now, dir int, s string, mode int, data string) call {
	return call{what: "File", c: c, now: now, dir: dir, name: s, mode: mode, data: data}
}

func symlink(c api.Cred, now, dir int, s, text string) call {
	return call{what: "Sym", c: c, now: now, dir: dir, name: s, data: text}
}

func hard(c api.Cred, now, no, dir int, s string) call {
	return call{what: "Hard", c: c, now: now, no: no, dir: dir, name: s}
}

// all is a call of each function of package drop that is handed a name.
func all(c api.Cred, now, dir int, s string) []call {
	return []call{leave(c, dir, s), unlink(c, now, dir, s), rmdir(c, now, dir, s)}
}

// String is a call for a message.
func (q call) String() string {
	return fmt.Sprintf("%s(%v, now %d, dir %d, name %.300q (%d), node %.500s, mode %#o, data %.50q (%d), no %d, %.500s)",
		q.what, q.c, q.now, q.dir, q.name, len(q.name), fmt.Sprintf("%+v", q.node), q.mode, q.data, len(q.data), q.no, fmt.Sprint(q.list))
}

// answer is what a call answers: Leave a directory and a node, the calls that make a node its number.
type answer struct {
	dir, node api.Node
	no        int
	e         api.Errno
}

// equal tells whether two answers are the same.
func (a answer) equal(b answer) bool {
	return alike(a.dir, b.dir) && alike(a.node, b.node) && a.no == b.no && a.e == b.e
}

// String is an answer for a message.
func (a answer) String() string {
	return fmt.Sprintf("%.500s, %.500s, %d, error %d", fmt.Sprintf("%+v", a.dir), fmt.Sprintf("%+v", a.node), a.no, a.e)
}

// alike tells whether two nodes are the same; entries may be nil or of no length.
func alike(a, b api.Node) bool {
	return numbers(a) == numbers(b) && a.Data == b.Data && slices.Equal(a.Ents, b.Ents)
}

// numbers is a node's fields that are numbers.
func numbers(n api.Node) [10]int {
	return [...]int{n.No, n.Dev, n.Kind, n.Mode, n.UID, n.GID, n.Mtime, n.Ctime, n.Links, n.Up}
}

// do calls the function in a world.
func (q call) do(w *mount.World) (a answer) {
	switch q.what {
	case "Leave":
		a.dir, a.node, a.e = drop.Leave(w, q.c, q.dir, q.name)
	case "Less":
		drop.Less(w, q.now, q.node)
	case "Unlink":
		a.e = drop.Unlink(w, q.c, q.now, q.dir, q.name)
	case "Rmdir":
		a.e = drop.Rmdir(w, q.c, q.now, q.dir, q.name)
	case "Touch":
		bring.Touch(w, q.dir, q.now, q.list)
	case "Dir":
		a.no, a.e = bring.Dir(w, q.c, q.now, q.dir, q.name, q.mode)
	case "File":
		a.no, a.e = bring.File(w, q.c, q.now, q.dir, q.name, q.mode, q.data)
	case "Sym":
		a.no, a.e = bring.Sym(w, q.c, q.now, q.dir, q.name, q.data)
	case "Hard":
		a.e = bring.Hard(w, q.c, q.now, q.no, q.dir, q.name)
	default:
		panic("a fault of this test: " + q.what)
	}
	return a
}

// plain is what a world ought to be: its nodes by their numbers, the number that was given last, the root over each directory
// that is covered, and each mount's limits.
type plain struct {
	nodes map[int]api.Node
	last  int
	over  map[int]int
	most  []api.Space
}

// copied is a plain world of its own, on which a call can be tried.
func (p *plain) copied() *plain {
	return &plain{maps.Clone(p.nodes), p.last, maps.Clone(p.over), slices.Clone(p.most)}
}

// use is what a mount ought to have in use.
func (p *plain) use(dev int) api.Space {
	s := p.most[dev-1]
	for _, n := range p.nodes {
		if n.Dev == dev {
			s.Nodes++
			s.Blocks += blocks(n.Kind, len(n.Data))
		}
	}
	return s
}

// blocks is how many blocks a node ought to have.
func blocks(kind, size int) int {
	switch kind {
	case dirKind:
		return 1
	case fileKind:
		return (size + 511) / 512
	}
	return 0
}

// isRoot tells whether a number is that of a mount's root.
func (p *plain) isRoot(no int) bool {
	return no == 1 || slices.Contains(slices.Collect(maps.Values(p.over)), no)
}

// may tells whether a mode, as it is told of a file, has all of some letters for somebody.
func may(c api.Cred, n api.Node, letters string) bool {
	told := fs.FileMode(n.Mode & 0o777).String()[1:]
	who := told[6:]
	if c.GID == n.GID {
		who = told[3:6]
	}
	if c.UID == n.UID {
		who = told[:3]
	}
	for _, letter := range letters {
		if c.UID != 0 && !strings.ContainsRune(who, letter) {
			return false
		}
	}
	return true
}

// check is whether a call fails by one of its checks, and with which error.
type check struct {
	fails bool
	e     api.Errno
}

// checks is a call's checks in the order of the chapters' sentences. The arguments of package bring's calls that aren't
// this package's matter, modes and bytes, are never wrong here.
func (p *plain) checks(q call) []check {
	n, covered := p.named(q.dir, q.name)
	switch q.what {
	case "Leave":
		return p.leaveChecks(q, n, covered)
	case "Unlink":
		return append(p.leaveChecks(q, n, covered), check{n.Kind == dirKind, isDir})
	case "Rmdir":
		return append(p.leaveChecks(q, n, covered), check{n.Kind != dirKind, notDir}, check{len(n.Ents) != 0, notEmpty})
	case "Dir":
		return append(p.placeChecks(q), p.makeChecks(q, dirKind)...)
	case "File":
		return append(p.placeChecks(q), p.makeChecks(q, fileKind)...)
	case "Sym":
		return append(p.placeChecks(q), p.makeChecks(q, linkKind)...)
	case "Hard":
		n, ok := p.nodes[q.no]
		return append(p.placeChecks(q),
			check{!ok, none}, check{n.Kind == dirKind, refused}, check{p.has(q.dir, q.name), exists},
			check{n.Dev != p.nodes[q.dir].Dev, cross}, check{n.Links >= maxLinks, tooMany})
	}
	return nil
}

// placeChecks is the checks of Place.
func (p *plain) placeChecks(q call) []check {
	d, ok := p.nodes[q.dir]
	return []check{
		{!ok, none}, {d.Kind != dirKind, notDir},
		{q.name == "" || q.name == "." || q.name == ".." || strings.ContainsAny(q.name, "/\x00"), wrong}, {len(q.name) > maxName, tooLong},
		{!may(q.c, d, "wx"), access},
	}
}

// leaveChecks is the checks of Leave.
func (p *plain) leaveChecks(q call, n api.Node, covered bool) []check {
	d := p.nodes[q.dir]
	theirs := q.c.UID == 0 || q.c.UID == d.UID || q.c.UID == n.UID
	return append(p.placeChecks(q), check{n.No == 0, none}, check{covered, busy}, check{d.Mode/sticky%2 != 0 && !theirs, refused})
}

// named is the node of a name, and whether a mount covers it; the node 0, if there is none.
func (p *plain) named(dir int, s string) (api.Node, bool) {
	for _, x := range p.nodes[dir].Ents {
		if n, ok := p.nodes[x.No]; ok && x.Name == s {
			_, covered := p.over[n.No]
			return n, covered
		}
	}
	return api.Node{}, false
}

// makeChecks is the checks, behind those of Place, of a call that makes a node.
func (p *plain) makeChecks(q call, kind int) []check {
	d, ok := p.nodes[q.dir]
	if !ok {
		return nil
	}
	s := p.use(d.Dev)
	return []check{
		{p.has(q.dir, q.name), exists}, {s.Nodes+1 > s.MostNodes, noNodes}, {s.Blocks+blocks(kind, len(q.data)) > s.MostBlocks, noSpace},
	}
}

// has tells whether a directory has a name.
func (p *plain) has(dir int, s string) bool {
	return slices.ContainsFunc(p.nodes[dir].Ents, func(x api.Ent) bool { return x.Name == s })
}

// ought is what a call's answer ought to be.
func (p *plain) ought(q call) answer { return p.copied().do(q) }

// do is what a call's answer ought to be, and does to the plain world what the call ought to do to the world.
func (p *plain) do(q call) answer {
	for _, x := range p.checks(q) {
		if x.fails {
			return answer{e: x.e}
		}
	}
	switch q.what {
	case "Leave":
		n, _ := p.named(q.dir, q.name)
		return answer{dir: p.nodes[q.dir], node: n}
	case "Less":
		p.less(q.node.No, q.now)
		return answer{}
	case "Unlink", "Rmdir":
		n, _ := p.named(q.dir, q.name)
		p.touch(q.dir, q.now, p.without(q.dir, q.name))
		p.less(n.No, q.now)
		return answer{}
	case "Touch":
		if p.nodes[q.dir].Kind == dirKind {
			p.touch(q.dir, q.now, q.list)
		}
		return answer{}
	case "Hard":
		n := p.nodes[q.no]
		n.Links, n.Ctime = n.Links+1, q.now
		p.nodes[q.no] = n
		p.touch(q.dir, q.now, p.with(q.dir, q.name, q.no))
		return answer{}
	}
	p.last++
	n := api.Node{No: p.last, Dev: p.nodes[q.dir].Dev, UID: q.c.UID, GID: q.c.GID, Mtime: q.now, Ctime: q.now, Links: 1, Data: q.data}
	switch q.what {
	case "Dir":
		n.Kind, n.Mode, n.Up = dirKind, q.mode, q.dir
	case "File":
		n.Kind, n.Mode = fileKind, q.mode
	case "Sym":
		n.Kind, n.Mode = linkKind, 511
	}
	p.nodes[p.last] = n
	p.touch(q.dir, q.now, p.with(q.dir, q.name, p.last))
	return answer{no: p.last}
}

// less has a node have one name less. A mount's root stays without any, since no call takes it away.
func (p *plain) less(no, now int) {
	n, ok := p.nodes[no]
	switch {
	case !ok:
	case n.Links > 1 || p.isRoot(no):
		n.Links, n.Ctime = n.Links-1, now
		p.nodes[no] = n
	default:
		delete(p.nodes, no)
	}
}

// touch has a directory have other entries, at a time.
func (p *plain) touch(dir, now int, l []api.Ent) {
	d := p.nodes[dir]
	d.Ents, d.Mtime, d.Ctime = slices.Clone(l), now, now
	p.nodes[dir] = d
}

// with is the entries of a directory, with one more.
func (p *plain) with(dir int, s string, no int) []api.Ent {
	return sorted(append(slices.Clone(p.nodes[dir].Ents), api.Ent{Name: s, No: no}))
}

// without is the entries of a directory, but for one.
func (p *plain) without(dir int, s string) []api.Ent {
	return slices.DeleteFunc(slices.Clone(p.nodes[dir].Ents), func(x api.Ent) bool { return x.Name == s })
}

// sorted is entries in the order of their names.
func sorted(l []api.Ent) []api.Ent {
	slices.SortFunc(l, func(x, y api.Ent) int { return strings.Compare(x.Name, y.Name) })
	return l
}

// both is a world, and what it ought to be.
type both struct {
	*testing.T
	w *mount.World
	p *plain
}

// opened is a new world with its plain one: the top alone, which is node 1.
func opened(t *testing.T) *both {
	t.Helper()
	return limited(t, 1000000, 60000)
}

// limited is a new world with limits of its first mount.
func limited(t *testing.T, mostBlocks, mostNodes int) *both {
	t.Helper()
	w, e := mount.New(mostBlocks, mostNodes)
	if e != accepted {
		t.Fatal(e)
	}
	b := &both{T: t, w: w, p: &plain{nodes: map[int]api.Node{}, last: 1, over: map[int]int{}, most: []api.Space{{MostBlocks: mostBlocks, MostNodes: mostNodes}}}}
	b.p.nodes[1], _ = w.Get(1)
	return b
}

// set puts a node in the place of the one with its number.
func (b *both) set(n api.Node) {
	b.Helper()
	if !b.w.Set(n) {
		b.Fatalf("a fault of this test: there is no node %d", n.No)
	}
	n.Ents = slices.Clone(n.Ents)
	b.p.nodes[n.No] = n
}

// open has a node have a mode, an owner and a group.
func (b *both) open(no, mode, uid, gid int) {
	b.Helper()
	n := b.p.nodes[no]
	n.Mode, n.UID, n.GID = mode, uid, gid
	b.set(n)
}

// linked has a node have a number of names.
func (b *both) linked(no, links int) {
	b.Helper()
	n := b.p.nodes[no]
	n.Links = links
	b.set(n)
}

// make makes a node without a name.
func (b *both) make(n api.Node) int {
	b.Helper()
	no, e := b.w.Make(n)
	if e != accepted {
		b.Fatalf("a fault of this test: Make = %d", e)
	}
	n.No = no
	n.Ents = slices.Clone(n.Ents)
	b.p.nodes[no], b.p.last = n, no
	return no
}

// name puts a name for a number into a directory.
func (b *both) name(dir int, s string, no int) {
	b.Helper()
	n := b.p.nodes[dir]
	n.Ents = sorted(append(b.p.without(dir, s), api.Ent{Name: s, No: no}))
	b.set(n)
}

// put makes a node with a name in a directory, on its mount. Its Links is 1 if nothing else is asked for.
func (b *both) put(dir int, s string, n api.Node) int {
	b.Helper()
	n.Dev = b.p.nodes[dir].Dev
	if n.Links == 0 {
		n.Links = 1
	}
	if n.Kind == dirKind {
		n.Up = dir
	}
	no := b.make(n)
	b.name(dir, s, no)
	return no
}

// dir makes a directory with which everybody may do everything.
func (b *both) dir(dir int, s string) int {
	b.Helper()
	return b.put(dir, s, api.Node{Kind: dirKind, Mode: 0o777})
}

// file makes a file with which nobody may do anything.
func (b *both) file(dir int, s, data string) int {
	b.Helper()
	return b.put(dir, s, api.Node{Kind: fileKind, Data: data})
}

// link makes a link with which nobody may do anything.
func (b *both) link(dir int, s, text string) int {
	b.Helper()
	return b.put(dir, s, api.Node{Kind: linkKind, Data: text})
}

// cover has a mount cover a directory: its root.
func (b *both) cover(no int) int {
	b.Helper()
	return b.covered(no, 1000, 1000)
}

// covered is cover with limits.
func (b *both) covered(no, mostBlocks, mostNodes int) int {
	b.Helper()
	over, e := b.w.Mount(no, mostBlocks, mostNodes)
	if e != accepted {
		b.Fatalf("a fault of this test: Mount = %d", e)
	}
	b.p.nodes[over], _ = b.w.Get(over)
	b.p.over[no], b.p.last = over, over
	b.p.most = append(b.p.most, api.Space{MostBlocks: mostBlocks, MostNodes: mostNodes})
	return over
}

// kill takes a node away, but none of its names.
func (b *both) kill(no int) {
	b.Helper()
	if !b.w.Kill(no) {
		b.Fatalf("a fault of this test: there is no node %d", no)
	}
	delete(b.p.nodes, no)
}

// got is a node of the world.
func (b *both) got(no int) api.Node {
	b.Helper()
	n, ok := b.w.Get(no)
	if !ok {
		b.Fatalf("there is no node %d", no)
	}
	return n
}

// gone holds that there is no node of a number.
func (b *both) gone(no int) {
	b.Helper()
	if n, ok := b.w.Get(no); ok || !alike(n, api.Node{}) {
		b.Fatalf("there is still the node %+v", n)
	}
}

// is makes a call, and holds its answer against what it ought to be, by the test and by the plain world, and the world behind
// it against the plain one.
func (b *both) is(q call, want answer) {
	b.Helper()
	if got := b.p.do(q); !got.equal(want) {
		b.Fatalf("the plain world and the test are of two minds: %v = %v or %v", q, got, want)
	}
	if got := q.do(b.w); !got.equal(want) {
		b.Fatalf("%v = %v, want %v", q, got, want)
	}
	b.same()
}

// ok is is of a call that answers no error, and of Leave what is there.
func (b *both) ok(q call) {
	b.Helper()
	var want answer
	if q.what == "Leave" {
		n, _ := b.p.named(q.dir, q.name)
		want = answer{dir: b.p.nodes[q.dir], node: n}
	}
	b.is(q, want)
}

// fails is is of a call that answers an error, and holds that nothing changed.
func (b *both) fails(q call, e api.Errno) {
	b.Helper()
	before := told(b.w)
	b.is(q, answer{e: e})
	if after := told(b.w); after != before {
		b.Fatalf("%v = error %d changed the world from\n%s\nto\n%s", q, e, before, after)
	}
}

// drawn makes a call, holds its answer against the plain world's, and is that.
func (b *both) drawn(q call) answer {
	b.Helper()
	want := b.p.do(q)
	if got := q.do(b.w); !got.equal(want) {
		b.Fatalf("%v = %v, want %v\n%.5000s", q, got, want, told(b.w))
	}
	b.same()
	return want
}

// same holds that a world is still what it ought to be.
func (b *both) same() {
	b.Helper()
	for n := range b.w.All() {
		if want := b.p.nodes[n.No]; !alike(n, want) {
			b.Fatalf("node %d is %.1000s, want %.1000s", n.No, fmt.Sprintf("%+v", n), fmt.Sprintf("%+v", want))
		}
	}
	if b.w.Len() != len(b.p.nodes) || b.w.Devs() != len(b.p.over)+1 {
		b.Fatalf("Len() = %d, Devs() = %d, want %d, %d", b.w.Len(), b.w.Devs(), len(b.p.nodes), len(b.p.over)+1)
	}
	for no, over := range b.p.over {
		if got := b.w.Over(no); got != over {
			b.Fatalf("Over(%d) = %d, want %d", no, got, over)
		}
	}
	for i := range b.p.most {
		if got, want := b.w.Use(i+1), b.p.use(i+1); got != want {
			b.Fatalf("Use(%d) = %v, want %v", i+1, got, want)
		}
	}
}

// told is all that can be asked of a world, as a text: also how much each mount has in use.
func told(w *mount.World) string {
	var s strings.Builder
	for n := range w.All() {
		path, ok := w.Where(n.No)
		fmt.Fprintf(&s, "%.1000q over %d above %d where %q %v\n", fmt.Sprintf("%+v", n), w.Over(n.No), w.Above(n.No), path, ok)
	}
	for d := range w.Devs() + 1 {
		fmt.Fprintln(&s, d, w.Root(d), w.Use(d))
	}
	return s.String()
}
