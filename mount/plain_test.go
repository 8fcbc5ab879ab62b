package mount_test

import (
	"fmt"
	"math"
	"reflect"
	"slices"
	"strings"
	"testing"

	"ragpicker/api"
	"ragpicker/mount"
)

// The document's numbers, written out.
const (
	block     = 512
	maxBlocks = 1073741824
	maxNodes  = 65536
	maxMounts = 8
)

// edges are numbers that no node and no mount of a small world has, and the ends of the kinds of integers.
var edges = []int{
	math.MinInt, math.MinInt + 1, -1 << 32, math.MinInt32, -65536, -9, -8, -3, -2, -1, 0, 1 << 16, math.MaxInt32, 1 << 32,
	1<<32 + 1, 1<<32 + 2, 1<<32 + 3, math.MaxInt - 1, math.MaxInt,
}

// bytes is a text of n bytes.
func bytes(n int) string { return strings.Repeat("x", n) }

// own is a copy of a node that shares no memory with it.
func own(n api.Node) api.Node {
	n.Ents = append([]api.Ent(nil), n.Ents...)
	return n
}

// same tells whether nodes have the same in all fields; no entries may be nil or an empty list (R3).
func same(a, b api.Node) bool { return reflect.DeepEqual(own(a), own(b)) }

// short is a node for a message.
func short(n api.Node) string {
	n.Data = fmt.Sprint(len(n.Data), " bytes")
	return fmt.Sprintf("%+v", n)
}

// cover is a mount, by the document's words: its root, the directory that it covers (0: none) and its limits.
type cover struct{ root, at, blocks, nodes int }

// plain is what a world ought to be: a list of nodes, how many came in all, and the mounts. Whatever is asked of it is
// looked up in these, or counted from them, anew.
type plain struct {
	nodes  []api.Node
	came   int
	mounts []cover
}

// topOf is the root of mount d, by P14.1.
func topOf(no, d int) api.Node {
	return api.Node{No: no, Dev: d, Kind: 1, Mode: 0o755, Links: 1, Up: no}
}

// begun is a plain world of one mount.
func begun(blocks, nodes int) *plain {
	return &plain{nodes: []api.Node{topOf(1, 1)}, came: 1, mounts: []cover{{1, 0, blocks, nodes}}}
}

// place is where in the list the node of a number is; -1: it is not there.
func (p *plain) place(no int) int {
	return slices.IndexFunc(p.nodes, func(n api.Node) bool { return n.No == no })
}

// get is the node of a number.
func (p *plain) get(no int) (api.Node, bool) {
	if i := p.place(no); i >= 0 {
		return p.nodes[i], true
	}
	return api.Node{}, false
}

// dir is the directory of a number.
func (p *plain) dir(no int) (api.Node, bool) {
	n, ok := p.get(no)
	return n, ok && n.Kind == 1
}

// mount is the mount with a number.
func (p *plain) mount(d int) (cover, bool) {
	if d >= 1 && d <= len(p.mounts) {
		return p.mounts[d-1], true
	}
	return cover{}, false
}

// blocks is how many blocks nodes have, by the definition in chapter 12.
func blocks(l ...api.Node) int {
	all := 0
	for _, n := range l {
		switch n.Kind {
		case 1:
			all++
		case 2:
			all += len(n.Data) / block
			if len(n.Data)%block > 0 {
				all++
			}
		}
	}
	return all
}

// on is the nodes on a mount.
func on(l []api.Node, d int) []api.Node {
	var some []api.Node
	for _, n := range l {
		if n.Dev == d {
			some = append(some, n)
		}
	}
	return some
}

// use is the space of a mount: what its nodes use, and its limits.
func (p *plain) use(d int) api.Space {
	m, ok := p.mount(d)
	if !ok {
		return api.Space{}
	}
	l := on(p.nodes, d)
	return api.Space{Blocks: blocks(l...), Nodes: len(l), MostBlocks: m.blocks, MostNodes: m.nodes}
}

// suffice is the error of so much more on a mount, in the order of P12.1.
func (p *plain) suffice(d, blocks, nodes int) api.Errno {
	q := p.use(d)
	if q.Nodes+nodes > q.MostNodes {
		return 15
	}
	if q.Blocks+blocks > q.MostBlocks {
		return 14
	}
	return 0
}

// root is the mount of which a number is the root; 0: it is no root.
func (p *plain) root(no int) int {
	for i, m := range p.mounts {
		if m.root == no {
			return i + 1
		}
	}
	return 0
}

// over is Over, by P14.2.
func (p *plain) over(no int) int {
	for _, m := range p.mounts {
		if no != 0 && m.at == no {
			return m.root
		}
	}
	return no
}

// above is Above, by P14.2 and the definition.
func (p *plain) above(no int) int {
	n, ok := p.dir(no)
	if !ok {
		return 0
	}
	if d := p.root(no); d > 1 {
		n, _ = p.get(p.mounts[d-1].at)
	}
	return n.Up
}

// way is a number and what is above it, directly or indirectly: numbers are added until there are no more of them.
func (p *plain) way(no int) map[int]bool {
	way := map[int]bool{no: true}
	for more := true; more; {
		more = false
		for x := range way {
			if up := p.above(x); !way[up] {
				way[up], more = true, true
				break
			}
		}
	}
	delete(way, 0)
	return way
}

// within is Within, by P14.2.
func (p *plain) within(no, base int) bool { return p.way(no)[base] }

// busy is Busy, by P14.2.
func (p *plain) busy(no int) bool {
	for _, m := range p.mounts {
		if m.at != 0 && p.within(m.at, no) {
			return true
		}
	}
	return false
}

// paths is Where of all directories that have a path: from the top downwards, each directory with a path gives one to those
// that it is above of, and that it has a name for.
func (p *plain) paths() map[int]string {
	all := map[int]string{}
	if _, ok := p.dir(1); ok {
		all[1] = ""
	}
	for fresh := true; fresh; {
		fresh = false
		for _, n := range p.nodes {
			up, has := all[p.above(n.No)]
			if _, known := all[n.No]; known || n.Kind != 1 || !has {
				continue
			}
			name, ok := p.name(p.above(n.No), n.No)
			if ok {
				all[n.No], fresh = up+"/"+name, true
			}
		}
	}
	if _, ok := all[1]; ok {
		all[1] = "/"
	}
	return all
}

// name is the first name that the directory above has for a directory, or for what it covers.
func (p *plain) name(up, no int) (string, bool) {
	if d := p.root(no); d > 1 {
		no = p.mounts[d-1].at
	}
	n, _ := p.dir(up)
	for _, x := range n.Ents {
		if x.No == no {
			return x.Name, true
		}
	}
	return "", false
}

// both is a world, and what it ought to be. Each call of it is one of the world, whose answer is held against what the
// chapter says of it.
type both struct {
	*testing.T
	w *mount.World
	p *plain
}

// opened is a new world with its plain one.
func opened(t *testing.T, blocks, nodes int) *both {
	t.Helper()
	w, e := mount.New(blocks, nodes)
	if w == nil || e != 0 {
		t.Fatalf("New(%d, %d) = %v, %d", blocks, nodes, w, e)
	}
	return &both{T: t, w: w, p: begun(blocks, nodes)}
}

// wide is a new world in which all fits.
func wide(t *testing.T) *both {
	t.Helper()
	return opened(t, 10000, 10000)
}

// mount holds a Mount against P14.1: the first that applies of the errors in their order, or a new root.
func (b *both) mount(at, blocks, nodes int) int {
	b.Helper()
	n, ok := b.p.get(at)
	want, is := 0, api.Errno(0)
	switch {
	case !ok:
		is = 5
	case n.Kind != 1:
		is = 9
	case b.p.over(at) != at, b.p.root(at) != 0:
		is = 16
	case len(b.p.mounts) >= maxMounts, blocks < 1, blocks > maxBlocks, nodes < 1, nodes > maxNodes:
		is = 3
	default:
		b.p.came++
		want = b.p.came
		b.p.mounts = append(b.p.mounts, cover{want, at, blocks, nodes})
		b.p.nodes = append(b.p.nodes, topOf(want, len(b.p.mounts)))
	}
	if got, e := b.w.Mount(at, blocks, nodes); got != want || e != is {
		b.Fatalf("Mount(%d, %d, %d) = %d, %d, want %d, %d", at, blocks, nodes, got, e, want, is)
	}
	b.used()
	return want
}

// make holds a Make against P14.3.
func (b *both) make(n api.Node) int {
	b.Helper()
	want, is := 0, api.Errno(1)
	if _, ok := b.p.mount(n.Dev); ok {
		is = b.p.suffice(n.Dev, blocks(n), 1)
	}
	if is == 0 {
		b.p.came++
		want = b.p.came
		added := own(n)
		added.No = want
		b.p.nodes = append(b.p.nodes, added)
	}
	if got, e := b.w.Make(n); got != want || e != is {
		b.Fatalf("Make(%s) = %d, %d, want %d, %d", short(n), got, e, want, is)
	}
	b.used()
	b.get(want)
	return want
}

// kill holds a Kill against P14.3.
func (b *both) kill(no int) {
	b.Helper()
	i := b.p.place(no)
	want := i >= 0 && b.p.root(no) == 0
	if want {
		b.p.nodes = slices.Delete(b.p.nodes, i, i+1)
	}
	if got := b.w.Kill(no); got != want {
		b.Fatalf("Kill(%d) = %v, want %v", no, got, want)
	}
	b.used()
	b.get(no)
}

// fill holds a Fill against P14.3.
func (b *both) fill(no int, data string) api.Errno {
	b.Helper()
	want := api.Errno(5)
	if i := b.p.place(no); i >= 0 {
		n := own(b.p.nodes[i])
		before := blocks(n)
		n.Data = data
		want = b.p.suffice(n.Dev, blocks(n)-before, 0)
		if want == 0 {
			b.p.nodes[i] = n
		}
	}
	if got := b.w.Fill(no, data); got != want {
		b.Fatalf("Fill(%d) with %d bytes = %d, want %d", no, len(data), got, want)
	}
	b.used()
	b.get(no)
	return want
}

// ents gives a node other entries, as the layers above do.
func (b *both) ents(no int, l ...api.Ent) {
	b.Helper()
	i := b.p.place(no)
	if i < 0 {
		b.Fatalf("a fault of this test: there is no node %d", no)
	}
	b.p.nodes[i].Ents = slices.Clone(l)
	n, ok := b.w.Get(no)
	n.Ents = l
	if !ok || !b.w.Set(n) {
		b.Fatalf("node %d can't be set", no)
	}
	b.get(no)
}

// name puts a name for a number into a node's entries, in order.
func (b *both) name(dir int, s string, no int) {
	b.Helper()
	n, _ := b.p.get(dir)
	l := append(slices.Clone(n.Ents), api.Ent{Name: s, No: no})
	slices.SortFunc(l, func(x, y api.Ent) int { return strings.Compare(x.Name, y.Name) })
	b.ents(dir, l...)
}

// dir makes a directory without a name.
func (b *both) dir(d, up int) int {
	b.Helper()
	return b.make(api.Node{Dev: d, Kind: 1, Mode: 0o755, Links: 1, Up: up})
}

// below makes a directory with a name in another one, on its mount.
func (b *both) below(dir int, s string) int {
	b.Helper()
	n, _ := b.p.get(dir)
	no := b.dir(n.Dev, dir)
	b.name(dir, s, no)
	return no
}

// covered makes a directory with a name in another one, and has a mount cover it: its root.
func (b *both) covered(dir int, s string) int {
	b.Helper()
	return b.mount(b.below(dir, s), 1000, 1000)
}

// get holds a node against the list.
func (b *both) get(no int) {
	b.Helper()
	want, is := b.p.get(no)
	if got, ok := b.w.Get(no); ok != is || !same(got, want) {
		b.Fatalf("Get(%d) = %s, %v, want %s, %v", no, short(got), ok, short(want), is)
	}
}

// used holds P14.4: what is in use on each mount is that of its nodes, those of the list and those that the world has.
func (b *both) used() {
	b.Helper()
	if got := b.w.Devs(); got != len(b.p.mounts) {
		b.Fatalf("Devs() = %d, want %d", got, len(b.p.mounts))
	}
	there := slices.Collect(b.w.All())
	for d := -1; d <= maxMounts+2; d++ {
		got, want := b.w.Use(d), b.p.use(d)
		if got != want {
			b.Fatalf("Use(%d) = %v, want %v", d, got, want)
		}
		if l := on(there, d); got.Blocks != blocks(l...) || got.Nodes != len(l) {
			b.Fatalf("Use(%d) = %v, its nodes use %d, %d", d, got, blocks(l...), len(l))
		}
	}
}

// numbers are those that came, some beside them, and the edges.
func (b *both) numbers() []int {
	l := slices.Clone(edges)
	for no := 1; no <= b.p.came+2; no++ {
		l = append(l, no)
	}
	return l
}

// all holds everything that can be asked of the world against the plain one.
func (b *both) all() {
	b.Helper()
	b.used()
	there := slices.Collect(b.w.All())
	if !slices.EqualFunc(there, b.p.nodes, same) || b.w.Len() != len(b.p.nodes) {
		b.Fatalf("All yields %d nodes, Len() = %d, want %d nodes, or other ones", len(there), b.w.Len(), len(b.p.nodes))
	}
	for _, d := range append([]int{1, 2, 3, 4, 5, 6, 7, 8, 9, 10}, edges...) {
		m, _ := b.p.mount(d)
		if got := b.w.Root(d); got != m.root {
			b.Fatalf("Root(%d) = %d, want %d", d, got, m.root)
		}
		if got, want := b.w.Use(d), b.p.use(d); got != want {
			b.Fatalf("Use(%d) = %v, want %v", d, got, want)
		}
	}
	paths := b.p.paths()
	for _, no := range b.numbers() {
		b.get(no)
		b.ask(no)
		b.path(no, paths)
	}
	b.within()
}

// ask holds Over, Above and Busy of a number.
func (b *both) ask(no int) {
	b.Helper()
	if got, want := b.w.Over(no), b.p.over(no); got != want {
		b.Fatalf("Over(%d) = %d, want %d", no, got, want)
	}
	if got, want := b.w.Above(no), b.p.above(no); got != want {
		b.Fatalf("Above(%d) = %d, want %d", no, got, want)
	}
	if got, want := b.w.Busy(no), b.p.busy(no); got != want {
		b.Fatalf("Busy(%d) = %v, want %v", no, got, want)
	}
}

// path holds Where of a number.
func (b *both) path(no int, paths map[int]string) {
	b.Helper()
	want, is := paths[no]
	if got, ok := b.w.Where(no); got != want || ok != is {
		b.Fatalf("Where(%d) = %q, %v, want %q, %v", no, got, ok, want, is)
	}
}

// within holds Within of all pairs of numbers.
func (b *both) within() {
	b.Helper()
	l := b.numbers()
	for _, no := range l {
		way := b.p.way(no)
		for _, base := range l {
			if got := b.w.Within(no, base); got != way[base] {
				b.Fatalf("Within(%d, %d) = %v, want %v", no, base, got, way[base])
			}
		}
	}
}
