package mount_test

import (
	"fmt"
	"math"
	"math/rand/v2"
	"slices"
	"strings"
	"testing"
	"time"

	"ragpicker/api"
	"ragpicker/mount"
	"ragpicker/quota"
)

// P14.1, P14.2: the chapter's example.
func TestExample(t *testing.T) {
	w, e := mount.New(9, 9)
	if e != api.OK {
		t.Fatal(e)
	}
	d, e := w.Make(api.Node{Dev: 1, Kind: api.Dir, Links: 1, Up: 1})
	if d != 2 || e != api.OK {
		t.Fatal(d, e)
	}
	n, _ := w.Get(1)
	n.Ents = []api.Ent{{Name: "d", No: d}}
	w.Set(n)
	root, e := w.Mount(d, 9, 9)
	if root != 3 || e != api.OK {
		t.Fatal(root, e)
	}
	if got := w.Over(2); got != 3 {
		t.Errorf("Over(2) = %d, want 3", got)
	}
	if got, ok := w.Where(3); got != "/d" || !ok {
		t.Errorf("Where(3) = %q, %v, want /d", got, ok)
	}
	if got := w.Above(3); got != 1 {
		t.Errorf("Above(3) = %d, want 1", got)
	}
}

// P14.1: a new world has the top and no other node, of which each field is told, and one block and one node are in use.
func TestNew(t *testing.T) {
	for _, x := range [][2]int{{1, 1}, {1, maxNodes}, {maxBlocks, 1}, {maxBlocks, maxNodes}, {9, 9}, {2, 1}, {1, 2}, {512, 513}} {
		w, e := mount.New(x[0], x[1])
		if w == nil || e != api.OK {
			t.Fatalf("New(%d, %d) = %v, %d", x[0], x[1], w, e)
		}
		n, ok := w.Get(1)
		if !ok || n.No != 1 || n.Dev != 1 || n.Kind != 1 || n.Mode != 0o755 || n.Links != 1 || n.Up != 1 {
			t.Errorf("the top is %+v, %v", n, ok)
		}
		if n.UID != 0 || n.GID != 0 || n.Mtime != 0 || n.Ctime != 0 || n.Data != "" || len(n.Ents) != 0 {
			t.Errorf("the top is %+v, other fields ought to be 0", n)
		}
		if got, want := w.Use(1), (api.Space{Blocks: 1, Nodes: 1, MostBlocks: x[0], MostNodes: x[1]}); got != want {
			t.Errorf("Use(1) = %v, want %v", got, want)
		}
		if w.Len() != 1 || w.Devs() != 1 || w.Root(1) != 1 {
			t.Errorf("Len() = %d, Devs() = %d, Root(1) = %d, want 1 each", w.Len(), w.Devs(), w.Root(1))
		}
		b := opened(t, x[0], x[1])
		b.all()
	}
}

// refused are limits that quota.New refuses.
var refused = [][2]int{
	{0, 1}, {1, 0}, {0, 0}, {-1, 5}, {5, -1}, {-1, -1}, {maxBlocks + 1, 1}, {1, maxNodes + 1}, {maxBlocks + 1, maxNodes + 1},
	{math.MinInt, 1}, {1, math.MinInt}, {math.MaxInt, 1}, {1, math.MaxInt}, {1<<32 + 1, 1}, {1, 1<<32 + 1}, {maxNodes, maxBlocks},
}

// P14.1: New with limits that quota.New refuses is nil and its error.
func TestNewRefused(t *testing.T) {
	for _, x := range refused {
		_, want := quota.New(x[0], x[1])
		if want == api.OK {
			t.Fatal("a fault of this test")
		}
		if w, e := mount.New(x[0], x[1]); w != nil || e != want || e != api.ErrRange {
			t.Errorf("New(%d, %d) = %v, %d, want nil, %d", x[0], x[1], w, e, want)
		}
	}
}

// P14.1: Mount has a new root like the top, on a mount of its own.
func TestMount(t *testing.T) {
	for _, x := range [][2]int{{1, 1}, {1, maxNodes}, {maxBlocks, 1}, {maxBlocks, maxNodes}, {7, 8}} {
		b := opened(t, 3, 4)
		d := b.below(1, "d")
		root, e := b.w.Mount(d, x[0], x[1])
		if root != 3 || e != api.OK {
			t.Fatalf("Mount(%d, %d, %d) = %d, %d, want 3, 0", d, x[0], x[1], root, e)
		}
		n, ok := b.w.Get(3)
		if !ok || n.No != 3 || n.Dev != 2 || n.Kind != 1 || n.Mode != 0o755 || n.Links != 1 || n.Up != 3 {
			t.Errorf("the root is %+v, %v", n, ok)
		}
		if n.UID != 0 || n.GID != 0 || n.Mtime != 0 || n.Ctime != 0 || n.Data != "" || len(n.Ents) != 0 {
			t.Errorf("the root is %+v, other fields ought to be 0", n)
		}
		if got, want := b.w.Use(1), (api.Space{Blocks: 2, Nodes: 2, MostBlocks: 3, MostNodes: 4}); got != want {
			t.Errorf("Use(1) = %v, want %v", got, want)
		}
		if got, want := b.w.Use(2), (api.Space{Blocks: 1, Nodes: 1, MostBlocks: x[0], MostNodes: x[1]}); got != want {
			t.Errorf("Use(2) = %v, want %v", got, want)
		}
		if b.w.Len() != 3 || b.w.Devs() != 2 || b.w.Root(2) != 3 || b.w.Over(2) != 3 {
			t.Errorf("Len() = %d, Devs() = %d, Root(2) = %d, Over(2) = %d", b.w.Len(), b.w.Devs(), b.w.Root(2), b.w.Over(2))
		}
	}
}

// P14.1: mounts cover directories beside each other, below each other and on each other's mounts, also ones without a name,
// with a file's fields, and on a mount in which nothing is left.
func TestMountAnywhere(t *testing.T) {
	b := opened(t, 5, 5)
	first := b.mount(b.below(1, "a"), 2, 2)
	b.all()
	second := b.mount(b.below(first, "b"), 2, 2)
	b.all()
	b.mount(b.below(second, "c"), 1, 1)
	b.all()
	d := b.below(1, "d")
	b.mount(b.below(d, "e"), 1, 1)
	b.all()
	b.mount(d, 1, 1)
	b.all()
	b.mount(b.make(api.Node{Dev: 1, Kind: 1, Mode: -5, UID: 7, GID: 8, Mtime: 9, Ctime: 10, Links: 0, Up: 77, Data: bytes(2000)}), 1, 1)
	b.all()
	if len(b.p.mounts) != 7 {
		t.Fatal("a fault of this test")
	}
}

// full has a world with eight mounts.
func full(b *both) {
	for len(b.p.mounts) < maxMounts {
		b.covered(1, fmt.Sprint("full", len(b.p.mounts)))
	}
}

// P14.1: each error of Mount, alone and beside each later one: the first one of the promise's sentence is returned, and
// nothing is changed, in particular no number is given.
func TestMountErrors(t *testing.T) {
	for _, many := range []bool{false, true} {
		for _, limits := range append([][2]int{{5, 5}}, refused...) {
			b := wide(t)
			d := b.below(1, "d")
			killed := b.below(1, "k")
			b.kill(killed)
			file := b.make(api.Node{Dev: 1, Kind: 2, Links: 1, Up: 1})
			link := b.make(api.Node{Dev: 1, Kind: 3, Links: 1, Data: "/d"})
			others := []int{
				b.make(api.Node{Dev: 1, Kind: 0, Links: 1}), b.make(api.Node{Dev: 1, Kind: 4, Links: 1}),
				b.make(api.Node{Dev: 1, Kind: -1, Links: 1}), b.make(api.Node{Dev: 1, Kind: 1<<32 + 1, Links: 1}),
			}
			under := b.below(1, "m")
			root := b.mount(under, 9, 9)
			deep := b.mount(b.below(root, "n"), 9, 9)
			deepFile := b.make(api.Node{Dev: 2, Kind: 2, Links: 1, Up: root})
			if many {
				full(b)
			}
			for _, x := range []struct {
				e  api.Errno
				at []int
			}{
				{api.ErrNone, append([]int{killed, b.p.came + 1, b.p.came + 2}, edges...)},
				{api.ErrNotDir, append([]int{file, link, deepFile}, others...)},
				{api.ErrBusy, []int{1, under, root, deep}},
			} {
				for _, at := range x.at {
					if got, e := b.w.Mount(at, limits[0], limits[1]); got != 0 || e != x.e {
						t.Errorf("Mount(%d, %d, %d) with %d mounts = %d, %d, want 0, %d", at, limits[0], limits[1], len(b.p.mounts), got, e, x.e)
					}
				}
			}
			if many || limits[0] != 5 {
				if got, e := b.w.Mount(d, limits[0], limits[1]); got != 0 || e != api.ErrRange {
					t.Errorf("Mount(%d, %d, %d) with %d mounts = %d, %d, want 0, 3", d, limits[0], limits[1], len(b.p.mounts), got, e)
				}
			}
			b.all()
			b.below(1, "next")
			b.all()
		}
	}
}

// P14.1: the eighth mount is there, and the ninth isn't; a mount comes to be no other one's, and no limit is another one's.
func TestMountMany(t *testing.T) {
	b := wide(t)
	for k := 2; k <= maxMounts; k++ {
		d := b.below(1, fmt.Sprint("d", k))
		if got := b.mount(d, 10*k, 20*k); got != d+1 || b.w.Devs() != k || b.w.Root(k) != got {
			t.Fatalf("mount %d has root %d, Devs() = %d, Root(%d) = %d", k, got, b.w.Devs(), k, b.w.Root(k))
		}
		b.all()
	}
	ninth := b.below(1, "d9")
	for range 3 {
		if got, e := b.w.Mount(ninth, 5, 5); got != 0 || e != api.ErrRange {
			t.Errorf("the ninth Mount = %d, %d, want 0, 3", got, e)
		}
		b.all()
	}
	if got := b.w.Over(ninth); got != ninth {
		t.Errorf("Over(%d) = %d", ninth, got)
	}
	if s, ok := b.w.Where(b.w.Root(8)); s != "/d8" || !ok {
		t.Errorf("Where of the eighth root = %q, %v", s, ok)
	}
}

// P14.1: the directory that a mount covers stays covered when it has another Up, and when it is gone; then there is no node
// to be covered once more.
func TestCoveredGone(t *testing.T) {
	b := wide(t)
	a := b.below(1, "a")
	d := b.below(a, "d")
	root := b.mount(d, 9, 9)
	x := b.below(root, "x")
	// Another Up, as a Rename sets it.
	e := b.below(1, "e")
	b.ents(a)
	b.name(e, "z", d)
	i := b.p.place(d)
	b.p.nodes[i].Up = e
	n, _ := b.w.Get(d)
	n.Up = e
	b.w.Set(n)
	b.all()
	if s, ok := b.w.Where(x); s != "/e/z/x" || !ok || b.w.Above(root) != e || !b.w.Busy(e) || b.w.Busy(a) {
		t.Errorf("Where(%d) = %q, %v, Above(%d) = %d", x, s, ok, root, b.w.Above(root))
	}
	b.kill(d)
	b.all()
	if got := b.w.Above(root); got != 0 {
		t.Errorf("Above(%d) = %d, when what is covered is gone", root, got)
	}
	b.mount(d, 9, 9)
	b.mount(root, 9, 9)
	b.all()
}

// hut is a world in which all that the promises tell apart is there; the comments tell the numbers.
func hut(t *testing.T) *both {
	b := wide(t)
	a := b.below(1, "a")                                                   // 2: /a
	m := b.below(a, "b")                                                   // 3: /a/b, covered
	b.below(m, "c")                                                        // 4: /a/b/c, hidden
	b.name(a, "x", b.make(api.Node{Dev: 1, Kind: 2, Links: 1, Up: a}))     // 5: /a/x, a file
	b.name(a, "l", b.make(api.Node{Dev: 1, Kind: 3, Links: 1, Data: "x"})) // 6: /a/l, a link
	e := b.below(1, "e")                                                   // 7: /e
	root := b.mount(m, 100, 100)                                           // 8: the root at /a/b
	f := b.below(root, "f")                                                // 9: /a/b/f
	g := b.below(f, "g")                                                   // 10: /a/b/f/g, covered
	deep := b.mount(g, 100, 100)                                           // 11: the root at /a/b/f/g
	h := b.below(deep, "h")                                                // 12: /a/b/f/g/h
	lost := b.dir(1, a)                                                    // 13: no name
	b.below(lost, "z")                                                     // 14: its directory has none
	b.name(e, "w", b.dir(1, a))                                            // 15: its name is in another directory
	y := b.make(api.Node{Dev: 3, Kind: 2, Links: 1, Up: h})                // 16: /a/b/f/g/h/y, a file
	b.name(h, "y", y)
	b.name(y, "q", b.dir(3, y))        // 17: above it is a file
	b.dir(1, 99)                       // 18: above it is nothing
	b.dir(1, 0)                        // 19: above it is no number
	b.name(20, "o", b.dir(1, 20))      // 20: above itself
	i, j := b.dir(1, 22), b.dir(1, 21) // 21, 22: above each other
	b.name(i, "j", j)
	b.name(j, "i", i)
	b.name(j, "k", b.dir(1, j))        // 23: below these
	b.name(root, "n2", b.dir(2, root)) // 24: /a/b/n1, two names
	b.name(root, "n1", b.p.came)
	b.name(root, "n3", 5)
	if b.p.came != 24 || b.w.Len() != 24 {
		t.Fatal("a fault of this test")
	}
	return b
}

// P14.2: all that is asked, of all numbers, of the world hut.
func TestHut(t *testing.T) {
	hut(t).all()
}

// P14.2: Over.
func TestOver(t *testing.T) {
	b := hut(t)
	for _, no := range b.numbers() {
		want := no
		switch no {
		case 3:
			want = 8
		case 10:
			want = 11
		}
		if got := b.w.Over(no); got != want {
			t.Errorf("Over(%d) = %d, want %d", no, got, want)
		}
	}
	b = wide(t)
	for _, no := range b.numbers() {
		if got := b.w.Over(no); got != no {
			t.Errorf("Over(%d) = %d in a new world", no, got)
		}
	}
}

// P14.2: Root, Devs and Use, in a world of each number of mounts.
func TestRootDevsUse(t *testing.T) {
	b := wide(t)
	roots := map[int]int{1: 1}
	for k := 1; ; k++ {
		if got := b.w.Devs(); got != k {
			t.Errorf("Devs() = %d, want %d", got, k)
		}
		for _, d := range append([]int{1, 2, 3, 4, 5, 6, 7, 8, 9, 10, k - 1, k + 1}, edges...) {
			if got := b.w.Root(d); got != roots[d] {
				t.Errorf("Root(%d) = %d of %d mounts, want %d", d, got, k, roots[d])
			}
			q := b.w.Use(d)
			if d < 1 || d > k {
				if q != (api.Space{}) {
					t.Errorf("Use(%d) = %v of %d mounts", d, q, k)
				}
			} else if q.MostBlocks < 1 || q.Nodes != 1 && d > 1 || d > 1 && q.MostBlocks != 100+d {
				t.Errorf("Use(%d) = %v of %d mounts", d, q, k)
			}
		}
		if k == maxMounts {
			break
		}
		roots[k+1] = b.mount(b.below(1, fmt.Sprint(k)), 101+k, 1000)
	}
}

// P14.2: Above.
func TestAbove(t *testing.T) {
	b := hut(t)
	for no, want := range map[int]int{
		1: 1, 2: 1, 3: 2, 4: 3, 7: 1, 8: 2, 9: 8, 10: 9, 11: 9, 12: 11, 13: 2, 14: 13, 15: 2, 17: 16, 18: 99, 20: 20, 21: 22, 22: 21, 23: 22, 24: 8,
		5: 0, 6: 0, 16: 0, 19: 0, 25: 0, 26: 0, 99: 0,
	} {
		if got := b.w.Above(no); got != want {
			t.Errorf("Above(%d) = %d, want %d", no, got, want)
		}
	}
	for _, no := range edges {
		if got := b.w.Above(no); got != 0 {
			t.Errorf("Above(%d) = %d, want 0", no, got)
		}
	}
}

// P14.2: Within.
func TestWithin(t *testing.T) {
	b := hut(t)
	for no, bases := range map[int][]int{
		1: {1}, 2: {1, 2}, 3: {1, 2, 3}, 4: {1, 2, 3, 4}, 5: {5}, 6: {6}, 7: {1, 7}, 8: {1, 2, 8}, 9: {1, 2, 8, 9}, 10: {1, 2, 8, 9, 10}, 11: {1, 2, 8, 9, 11},
		12: {1, 2, 8, 9, 11, 12}, 13: {1, 2, 13}, 14: {1, 2, 13, 14}, 15: {1, 2, 15}, 16: {16}, 17: {16, 17}, 18: {18, 99}, 19: {19}, 20: {20}, 21: {21, 22},
		22: {21, 22}, 23: {21, 22, 23}, 24: {1, 2, 8, 24}, 25: {25}, 99: {99}, -1: {-1}, 0: {},
	} {
		for _, base := range append(b.numbers(), 99) {
			if got, want := b.w.Within(no, base), slices.Contains(bases, base); got != want {
				t.Errorf("Within(%d, %d) = %v, want %v", no, base, got, want)
			}
		}
	}
	for _, no := range edges {
		if got := b.w.Within(no, no); got != (no != 0) {
			t.Errorf("Within(%d, %d) = %v", no, no, got)
		}
		if b.w.Within(no, 1) || b.w.Within(no, no+1) {
			t.Errorf("Within(%d) another number", no)
		}
	}
}

// P14.2: Busy: what a mount covers, and what is above that, is busy; a root isn't because it covers something.
func TestBusy(t *testing.T) {
	b := hut(t)
	busy := []int{1, 2, 3, 8, 9, 10}
	for _, no := range b.numbers() {
		if got, want := b.w.Busy(no), slices.Contains(busy, no); got != want {
			t.Errorf("Busy(%d) = %v, want %v", no, got, want)
		}
	}
	b = wide(t)
	d := b.below(1, "d")
	b.below(d, "e")
	for _, no := range b.numbers() {
		if b.w.Busy(no) {
			t.Errorf("Busy(%d) in a world of one mount", no)
		}
	}
}

// P14.2: Where.
func TestWhere(t *testing.T) {
	b := hut(t)
	paths := map[int]string{
		1: "/", 2: "/a", 3: "/a/b", 4: "/a/b/c", 7: "/e", 8: "/a/b", 9: "/a/b/f", 10: "/a/b/f/g", 11: "/a/b/f/g", 12: "/a/b/f/g/h", 24: "/a/b/n1",
	}
	for _, no := range b.numbers() {
		want, is := paths[no]
		if got, ok := b.w.Where(no); got != want || ok != is {
			t.Errorf("Where(%d) = %q, %v, want %q, %v", no, got, ok, want, is)
		}
	}
}

// P14.2: Where follows the names, and ends where the last one on the way goes.
func TestWhereChanges(t *testing.T) {
	b := wide(t)
	a := b.below(1, "a")
	d := b.below(a, "b")
	root := b.covered(d, "c")
	x := b.below(root, "d")
	is := func(want string) {
		t.Helper()
		if got, ok := b.w.Where(x); got != want || ok != (want != "") {
			t.Errorf("Where(%d) = %q, %v, want %q", x, got, ok, want)
		}
		b.all()
	}
	is("/a/b/c/d")
	b.ents(d, api.Ent{Name: "C", No: root - 1})
	is("/a/b/C/d")
	// A name for the root itself, which no directory has, doesn't count.
	b.ents(d, api.Ent{Name: "r", No: root})
	is("")
	b.ents(d, api.Ent{Name: "\xff \n%", No: root - 1})
	is("/a/b/\xff \n%/d")
	b.ents(1)
	is("")
	b.ents(1, api.Ent{Name: "z", No: a})
	is("/z/b/\xff \n%/d")
	b.ents(root)
	is("")
	b.ents(root, api.Ent{Name: "a", No: 1}, api.Ent{Name: "b", No: x}, api.Ent{Name: "c", No: x})
	is("/z/b/\xff \n%/b")
	b.kill(d)
	is("")
}

// P14.2: a name in what is no directory is none of a directory.
func TestWhereBelowFile(t *testing.T) {
	for kind := range 5 {
		b := wide(t)
		up := b.make(api.Node{Dev: 1, Kind: kind, Links: 1, Up: 1, Ents: []api.Ent{{Name: "d", No: 3}}})
		b.name(1, "f", up)
		d := b.make(api.Node{Dev: 1, Kind: 1, Links: 1, Up: up})
		if got, ok := b.w.Where(d); ok != (kind == 1) || ok && got != "/f/d" {
			t.Errorf("Where(%d) = %q, %v below a node of kind %d", d, got, ok, kind)
		}
		b.all()
	}
}

// R1: directories that are above each other, in rings of each length, with a tail or a covered one: each question is
// answered, and none of them is anywhere.
func TestRings(t *testing.T) {
	for ring := 1; ring <= 6; ring++ {
		for tail := range 4 {
			for covered := range ring + tail + 1 {
				b := wide(t)
				for k := range ring + tail {
					no := k + 2
					up := no - 1
					if k == 0 {
						up = ring + 1
					}
					if got := b.make(api.Node{Dev: 1, Kind: 1, Links: 1, Up: up, Ents: []api.Ent{{Name: "n", No: no + 1}, {Name: "o", No: 2}}}); got != no {
						t.Fatal("a fault of this test")
					}
				}
				if covered > 0 {
					b.mount(covered+1, 9, 9)
				}
				b.all()
				for no := 2; no <= ring+tail+1; no++ {
					if got, ok := b.w.Where(no); got != "" || ok || b.w.Within(no, 1) {
						t.Errorf("Where(%d) = %q, %v in a ring of %d", no, got, ok, ring)
					}
				}
			}
		}
	}
}

// R1: a mount that covers what is below its own root.
func TestRingOfMounts(t *testing.T) {
	b := wide(t)
	d := b.below(1, "d")
	root := b.mount(d, 9, 9)
	e := b.covered(root, "e")
	x := b.below(e, "x")
	set := func(no, up int) {
		b.p.nodes[b.p.place(no)].Up = up
		n, _ := b.w.Get(no)
		n.Up = up
		b.w.Set(n)
	}
	for _, up := range []int{root, e, x, d} {
		set(d, up)
		b.name(up, fmt.Sprint("d", up), d)
		b.all()
		if got, ok := b.w.Where(x); got != "" || ok {
			t.Errorf("Where(%d) = %q, %v, want none", x, got, ok)
		}
	}
	set(d, 1)
	b.all()
	if got, ok := b.w.Where(x); got != "/d/e/x" || !ok {
		t.Errorf("Where(%d) = %q, %v, want /d/e/x", x, got, ok)
	}
}

// P14.3: Make on a mount that is not there, whatever else is wrong.
func TestMakeNowhere(t *testing.T) {
	b := opened(t, 1, 1)
	for k := 1; k <= maxMounts; k++ {
		for _, d := range append([]int{k + 1, k + 2, maxMounts + 1}, edges...) {
			for kind := range 5 {
				if no, e := b.w.Make(api.Node{No: 1, Dev: d, Kind: kind, Data: bytes(600)}); no != 0 || e != api.ErrArg {
					t.Errorf("Make on mount %d of %d = %d, %d, want 0, 1", d, k, no, e)
				}
			}
		}
		b.all()
		if k == 1 {
			b = wide(t)
		}
		if k < maxMounts {
			b.covered(1, fmt.Sprint(k))
		}
	}
}

// sizes are lengths of data around whole blocks.
var sizes = []int{0, 1, 2, block - 1, block, block + 1, 2*block - 1, 2 * block, 2*block + 1, 3 * block, 3*block + 1, 10 * block}

// P14.3: Make of each kind, with data of each size, on each mount, and all fields as they were handed in.
func TestMake(t *testing.T) {
	for d := 1; d <= 3; d++ {
		b := wide(t)
		b.covered(1, "a")
		b.covered(1, "b")
		for _, kind := range []int{1, 2, 3, 4, 0, -1, 5, math.MinInt, math.MaxInt, 1<<32 + 2} {
			for k, size := range sizes {
				before := b.w.Use(d)
				no := b.make(api.Node{
					No: 3 - k, Dev: d, Kind: kind, Mode: k - 3, UID: k + 1, GID: -k, Mtime: k + 2, Ctime: k + 3, Links: k + 4, Up: k + 5,
					Data: bytes(size), Ents: []api.Ent{{Name: "b", No: k}, {Name: "a", No: -k}},
				})
				want := 0
				switch kind {
				case 1:
					want = 1
				case 2:
					want = (size + block - 1) / block
				}
				if q := b.w.Use(d); q.Blocks-before.Blocks != want || q.Nodes-before.Nodes != 1 || no != b.p.came {
					t.Errorf("Make of kind %d, %d bytes, takes %d blocks, %d nodes, want %d, 1", kind, size, q.Blocks-before.Blocks, q.Nodes-before.Nodes, want)
				}
			}
		}
		b.all()
	}
}

// P14.3: Make where blocks and nodes just suffice, where one is too few, and where it is for both.
func TestMakeSpace(t *testing.T) {
	for d := 1; d <= 2; d++ {
		for kind := 1; kind <= 4; kind++ {
			for _, size := range sizes {
				need := blocks(api.Node{Kind: kind, Data: bytes(size)})
				for _, moreBlocks := range []int{-1, 0, 1} {
					for _, moreNodes := range []int{-1, 0, 1} {
						b := wide(t)
						most := 1 + need + moreBlocks
						if most < 1 {
							continue
						}
						if d == 1 {
							b = opened(t, most, 2+moreNodes)
						} else {
							b.mount(b.below(1, "m"), most, 2+moreNodes)
						}
						want := api.OK
						if moreNodes < 0 {
							want = api.ErrNodes
						} else if moreBlocks < 0 {
							want = api.ErrSpace
						}
						next := b.p.came + 1
						if want != api.OK {
							next = 0
						}
						n := api.Node{Dev: d, Kind: kind, Links: 1, Data: bytes(size)}
						if b.p.suffice(d, need, 1) != want {
							t.Fatal("a fault of this test")
						}
						if got := b.make(n); got != next {
							t.Errorf("Make = %d, want %d", got, next)
						}
						b.make(n)
						b.all()
					}
				}
			}
		}
	}
}

// P14.3: where all blocks are in use, what has none still comes; where all nodes are, nothing does, whatever goes on on
// other mounts.
func TestMakeUsedUp(t *testing.T) {
	b := opened(t, 2, 4)
	b.below(1, "m")
	root := b.mount(2, 1, 2)
	for _, x := range []struct {
		n api.Node
		e api.Errno
	}{
		{api.Node{Dev: 2, Kind: 1}, api.ErrSpace},
		{api.Node{Dev: 2, Kind: 2, Data: "x"}, api.ErrSpace},
		{api.Node{Dev: 1, Kind: 2, Data: "x"}, api.ErrSpace},
		{api.Node{Dev: 2, Kind: 2}, api.OK},
		{api.Node{Dev: 2, Kind: 2}, api.ErrNodes},
		{api.Node{Dev: 2, Kind: 1}, api.ErrNodes},
		{api.Node{Dev: 2, Kind: 3, Data: bytes(5000)}, api.ErrNodes},
		{api.Node{Dev: 1, Kind: 3, Data: bytes(5000)}, api.OK},
		{api.Node{Dev: 1, Kind: 2, Data: bytes(1)}, api.ErrSpace},
		{api.Node{Dev: 1, Kind: 2}, api.OK},
		{api.Node{Dev: 1, Kind: 2}, api.ErrNodes},
		{api.Node{Dev: 1, Kind: 7}, api.ErrNodes},
	} {
		next := b.p.came + 1
		if x.e != api.OK {
			next = 0
		}
		if no, e := b.w.Make(x.n); no != next || e != x.e {
			t.Fatalf("Make(%s) = %d, %d, want %d, %d", short(x.n), no, e, next, x.e)
		}
		if next > 0 {
			x.n.No = next
			b.p.came++
			b.p.nodes = append(b.p.nodes, x.n)
		}
		b.all()
	}
	b.kill(root + 1)
	b.make(api.Node{Dev: 2, Kind: 3})
	b.all()
}

// P14.3: Kill takes a node once, and not a root, and the space goes back to the node's own mount.
func TestKill(t *testing.T) {
	for d := 1; d <= 3; d++ {
		for kind := range 5 {
			for _, size := range sizes {
				b := wide(t)
				b.covered(1, "a")
				b.covered(1, "b")
				n := api.Node{Dev: d, Kind: kind, Links: 1, Up: 1, Data: bytes(size)}
				b.make(n)
				no := b.make(n)
				b.make(n)
				before := b.w.Use(d)
				b.kill(no)
				q := b.w.Use(d)
				if before.Nodes-q.Nodes != 1 || before.Blocks-q.Blocks != blocks(n) || b.w.Len() != 7 {
					t.Errorf("Kill of kind %d, %d bytes, on mount %d: from %v to %v", kind, size, d, before, q)
				}
				b.kill(no)
				b.kill(no)
				b.kill(no - 1)
				b.kill(no + 1)
				b.all()
			}
		}
	}
}

// P14.3: Kill of what can't be killed.
func TestKillNot(t *testing.T) {
	b := hut(t)
	for _, no := range append([]int{1, 8, 11, 25, 26, 99}, edges...) {
		for range 2 {
			if b.w.Kill(no) {
				t.Errorf("Kill(%d) = true", no)
			}
		}
		b.all()
	}
	// A directory that is above itself is no root for that, and one with names, or that is covered, goes as well.
	for _, no := range []int{20, 21, 13, 2, 3, 7, 10} {
		if !b.w.Kill(no) {
			t.Errorf("Kill(%d) = false", no)
		}
		b.p.nodes = slices.Delete(b.p.nodes, b.p.place(no), b.p.place(no)+1)
		b.all()
	}
}

// P14.3: Kill of all nodes, over and over, leaves each mount as it was at its beginning.
func TestKillAll(t *testing.T) {
	b := hut(t)
	for range 3 {
		for no := b.p.came; no >= 1; no-- {
			b.kill(no)
		}
		b.all()
		if b.w.Len() != 3 {
			t.Errorf("Len() = %d, want the three roots", b.w.Len())
		}
		for d := 1; d <= 3; d++ {
			if q := b.w.Use(d); q.Blocks != 1 || q.Nodes != 1 {
				t.Errorf("Use(%d) = %v", d, q)
			}
			for k, size := range sizes {
				b.make(api.Node{Dev: d, Kind: k % 4, Data: bytes(size)})
			}
		}
	}
}

// P14.3: Fill from each size to each other one, of each kind, on each mount.
func TestFill(t *testing.T) {
	for d := 1; d <= 2; d++ {
		for kind := range 5 {
			for _, from := range sizes {
				for _, to := range sizes {
					b := wide(t)
					b.covered(1, "a")
					no := b.make(api.Node{Dev: d, Kind: kind, Mode: 1, UID: 2, GID: 3, Mtime: 4, Ctime: 5, Links: 6, Up: 7, Data: bytes(from), Ents: []api.Ent{{Name: "a", No: 1}}})
					other := b.make(api.Node{Dev: d, Kind: kind, Data: "other"})
					data := strings.Repeat("y", to)
					if e := b.w.Fill(no, data); e != api.OK {
						t.Errorf("Fill of kind %d from %d to %d bytes = %d", kind, from, to, e)
					}
					b.p.nodes[b.p.place(no)].Data = data
					b.used()
					b.get(no)
					b.get(other)
				}
			}
		}
	}
}

// P14.3: Fill where blocks just suffice, where one is too few (then the data stay as they were), and where nothing more is
// asked for.
func TestFillSpace(t *testing.T) {
	for d := 1; d <= 2; d++ {
		for _, from := range sizes {
			for _, to := range sizes {
				for more := -1; more <= 1; more++ {
					file := api.Node{Dev: d, Kind: 2, Links: 1, Data: bytes(from)}
					large := blocks(api.Node{Kind: 2, Data: bytes(max(from, to))})
					most := 1 + large + more
					if most < 1+blocks(file) {
						continue
					}
					b := wide(t)
					if d == 1 {
						b = opened(t, most, 2)
					} else {
						b.mount(b.below(1, "m"), most, 2)
					}
					no := b.make(file)
					want, left := api.OK, strings.Repeat("y", to)
					if more < 0 {
						want, left = api.ErrSpace, bytes(from)
					}
					if got := b.fill(no, strings.Repeat("y", to)); got != want {
						t.Errorf("Fill from %d to %d bytes of %d blocks = %d, want %d", from, to, most, got, want)
					}
					if n, _ := b.w.Get(no); n.Data != left {
						t.Errorf("Fill from %d to %d bytes of %d blocks leaves %s", from, to, most, short(n))
					}
					b.all()
				}
			}
		}
	}
}

// P14.3: Fill asks for no node, and for no block if there is none more: where all are in use, it still goes.
func TestFillUsedUp(t *testing.T) {
	b := opened(t, 2, 3)
	file := b.make(api.Node{Dev: 1, Kind: 2, Data: "a"})
	link := b.make(api.Node{Dev: 1, Kind: 3})
	for _, x := range []struct {
		no, size int
		e        api.Errno
	}{
		{file, 512, api.OK}, {file, 513, api.ErrSpace}, {file, 100, api.OK}, {link, 5000, api.OK}, {1, 5000, api.OK}, {file, 0, api.OK}, {link, 0, api.OK},
		{file, 513, api.ErrSpace}, {file, 1 << 20, api.ErrSpace}, {file, 512, api.OK}, {1, 0, api.OK},
	} {
		if got := b.fill(x.no, bytes(x.size)); got != x.e {
			t.Errorf("Fill(%d) with %d bytes = %d, want %d", x.no, x.size, got, x.e)
		}
		b.all()
	}
}

// P14.3: Fill of a number without a node.
func TestFillNone(t *testing.T) {
	b := hut(t)
	b.kill(5)
	for _, no := range append([]int{5, 25, 26, 99}, edges...) {
		for _, size := range sizes {
			if e := b.w.Fill(no, bytes(size)); e != api.ErrNone {
				t.Errorf("Fill(%d) with %d bytes = %d, want 5", no, size, e)
			}
		}
	}
	b.all()
}

// P14.3: data of any bytes, and more of them than a file may have, which only the layers above forbid; what counts is how
// many bytes there are, not how many characters.
func TestAnyData(t *testing.T) {
	b := wide(t)
	no := b.make(api.Node{Dev: 1, Kind: 2})
	for _, data := range []string{
		"\x00\xff\n", bytes(1 << 20), bytes(1<<20 + 1), bytes(3 << 20), "", strings.Repeat("\x00", block), strings.Repeat("\u00e9", block),
		strings.Repeat("\U0001f5d1", block/4), strings.Repeat("\U0001f5d1", block/4) + "x", strings.Repeat("\xff", block+1),
	} {
		for kind := range 5 {
			made := b.make(api.Node{Dev: 1, Kind: kind, Data: data})
			want := 0
			switch kind {
			case 1:
				want = 1
			case 2:
				want = (len(data) + 511) / 512
			}
			if got := blocks(b.p.nodes[b.p.place(made)]); got != want {
				t.Fatal("a fault of this test")
			}
			b.kill(made)
		}
		if e := b.fill(no, data); e != api.OK {
			t.Errorf("Fill with %d bytes = %d", len(data), e)
		}
	}
	b.all()
}

// P14.3, P14.4: how many entries a directory has changes nothing in what it uses.
func TestManyEntries(t *testing.T) {
	b := opened(t, 4, 4)
	var l []api.Ent
	for k := range 5000 {
		l = append(l, api.Ent{Name: fmt.Sprintf("%04d", k), No: 3})
	}
	d := b.make(api.Node{Dev: 1, Kind: 1, Links: 1, Up: 1, Ents: l})
	b.ents(1, l...)
	b.fill(1, bytes(600))
	b.fill(d, bytes(600))
	b.mount(b.dir(1, d), 1, 1)
	b.all()
	b.ents(d)
	b.kill(d)
	b.all()
}

// LANGUAGE.md, 7: the entries of a node that is handed in are not kept and not changed.
func TestHandedIn(t *testing.T) {
	b := wide(t)
	l := []api.Ent{{Name: "a", No: 1}, {Name: "b", No: 2}, {Name: "c", No: 3}}
	n := api.Node{Dev: 1, Kind: 1, Ents: l[:2]}
	no := b.make(n)
	b.fill(no, "data")
	if !slices.Equal(l, []api.Ent{{Name: "a", No: 1}, {Name: "b", No: 2}, {Name: "c", No: 3}}) || n.No != 0 || n.Data != "" {
		t.Errorf("Make leaves %v, %v", l, n)
	}
	l[0].Name = "z"
	b.all()
}

// R5: worlds know nothing of each other.
func TestTwo(t *testing.T) {
	a, b := wide(t), hut(t)
	c := wide(t)
	all := func() {
		t.Helper()
		a.all()
		b.all()
		c.all()
	}
	all()
	root := a.covered(1, "a")
	all()
	a.below(root, "b")
	c.make(api.Node{Dev: 1, Kind: 2, Data: bytes(1000)})
	all()
	b.kill(2)
	c.fill(2, "")
	all()
	c.make(api.Node{Dev: 2, Kind: 2})
	b.mount(7, 5, 5)
	all()
}

// LANGUAGE.md, 4: no method of the World's own panics on a nil one, or on one that New did not create.
func TestNoWorld(t *testing.T) {
	for what, w := range map[string]*mount.World{"nil": nil, "empty": {}} {
		for range 2 {
			for _, no := range append([]int{1, 2}, edges...) {
				if got, e := w.Mount(no, 5, 5); got != 0 || e != api.ErrNone {
					t.Errorf("%s: Mount(%d) = %d, %d", what, no, got, e)
				}
				if w.Over(no) != no || w.Root(no) != 0 || w.Use(no) != (api.Space{}) || w.Above(no) != 0 || w.Busy(no) || w.Kill(no) {
					t.Errorf("%s: number %d is something", what, no)
				}
				if w.Within(no, 1) != (no == 1) {
					t.Errorf("%s: Within(%d, 1) = %v", what, no, w.Within(no, 1))
				}
				if got, ok := w.Where(no); got != "" || ok {
					t.Errorf("%s: Where(%d) = %q, %v", what, no, got, ok)
				}
				if got, e := w.Make(api.Node{Dev: no, Kind: 1}); got != 0 || e != api.ErrArg {
					t.Errorf("%s: Make on mount %d = %d, %d", what, no, got, e)
				}
				if e := w.Fill(no, "x"); e != api.ErrNone {
					t.Errorf("%s: Fill(%d) = %d", what, no, e)
				}
			}
			if w.Devs() != 0 {
				t.Errorf("%s: Devs() = %d", what, w.Devs())
			}
		}
	}
}

// R1: after the table's own Add, Set and Drop, of which the chapter says nothing, each call still ends and none panics.
func TestSetAnyhow(t *testing.T) {
	for _, n := range []api.Node{
		{Kind: 1, Dev: 1, Up: 2}, {Kind: 1, Dev: 99, Up: 3}, {Kind: 2, Dev: 2, Up: 1, Data: bytes(5000)}, {Kind: 2, Dev: -1}, {Kind: 1, Dev: math.MaxInt, Up: math.MinInt},
		{Kind: 2, Dev: 0, Data: bytes(5)}, {},
	} {
		for drop := range 2 {
			b := hut(t)
			b.w.Add(n)
			for no := 1; no <= 24; no++ {
				n.No = no
				b.w.Set(n)
				if drop > 0 && no%3 == 1 {
					b.w.Drop(no)
				}
				for _, x := range b.numbers() {
					b.w.Over(x)
					b.w.Above(x)
					b.w.Within(x, 1)
					b.w.Busy(x)
					b.w.Where(x)
					b.w.Root(x)
					b.w.Use(x)
				}
			}
			for _, x := range b.numbers() {
				b.w.Make(api.Node{Dev: x, Kind: 1, Up: x})
				b.w.Fill(x, bytes(700))
				b.w.Mount(x, 5, 5)
				b.w.Fill(x, "")
				b.w.Kill(x)
			}
		}
	}
}

// P14.1 to P14.4: all ways of up to four steps.
func TestWays(t *testing.T) {
	steps := []func(b *both){
		func(b *both) {
			b.make(api.Node{Dev: 1, Kind: 1, Up: b.p.came, Ents: []api.Ent{{Name: "n", No: b.p.came + 2}}})
		},
		func(b *both) { b.make(api.Node{Dev: len(b.p.mounts), Kind: 2, Up: 1, Data: bytes(block)}) },
		func(b *both) { b.make(api.Node{Dev: 2, Kind: 1, Up: 3}) },
		func(b *both) { b.mount(b.p.came, 2, 2) },
		func(b *both) { b.mount(2, 3, 3) },
		func(b *both) { b.kill(2) },
		func(b *both) { b.kill(b.p.came) },
		func(b *both) { b.fill(b.p.came, bytes(block+1)) },
		func(b *both) { b.fill(2, "") },
		func(b *both) { b.ents(1, api.Ent{Name: "a", No: 2}, api.Ent{Name: "b", No: b.p.came}) },
	}
	var from func(way []int)
	from = func(way []int) {
		b := opened(t, 4, 4)
		for _, i := range way {
			steps[i](b)
		}
		b.all()
		if len(way) == 4 {
			return
		}
		for i := range steps {
			from(append(way[:len(way):len(way)], i))
		}
	}
	from(nil)
}

// random does a step that is drawn by r.
func random(b *both, r *rand.Rand) {
	b.Helper()
	no := r.IntN(b.p.came+3) - 1
	size := sizes[r.IntN(len(sizes))]
	switch i := r.IntN(20); {
	case i < 7:
		d := r.IntN(len(b.p.mounts)+3) - 1
		if up, ok := b.p.get(no); ok && i < 5 {
			d = up.Dev
		}
		kind := 1 + r.IntN(2)
		if i == 6 {
			kind = r.IntN(6) - 1
		}
		made := b.make(api.Node{No: r.IntN(9), Dev: d, Kind: kind, Mode: r.IntN(1024), Links: 1, Up: no, Data: bytes(size)})
		if _, ok := b.p.dir(no); ok && made > 0 && i > 0 {
			b.name(no, fmt.Sprint("n", made), made)
		}
	case i < 10:
		b.kill(no)
	case i < 15:
		b.fill(no, bytes(size))
	case i < 17:
		b.mount(no, r.IntN(40), r.IntN(20))
	case i < 18:
		if n, ok := b.p.get(no); ok && len(n.Ents) > 0 {
			k := r.IntN(len(n.Ents))
			b.ents(no, append(slices.Clone(n.Ents[:k]), n.Ents[k+1:]...)...)
		}
	default:
		b.ask(no)
	}
}

// P14.1 to P14.4: long sequences of calls held against a plain world; after each of them what is in use on each mount is
// that of its nodes.
func TestLong(t *testing.T) {
	r := rand.New(rand.NewPCG(14, 1))
	mounts := 0
	for round := range 150 {
		b := opened(t, 1+r.IntN(60), 1+r.IntN(60))
		for k := range 200 {
			random(b, r)
			if k%40 == round%40 {
				b.all()
			}
		}
		b.all()
		mounts = max(mounts, len(b.p.mounts))
	}
	if mounts < maxMounts {
		t.Errorf("no sequence had all the mounts: %d", mounts)
	}
}

// P14.3, P14.4: as many nodes as a mount may have, and none more, on two mounts.
func TestMany(t *testing.T) {
	w, e := mount.New(maxBlocks, maxNodes)
	if e != api.OK {
		t.Fatal(e)
	}
	d, _ := w.Make(api.Node{Dev: 1, Kind: 1, Up: 1})
	root, e := w.Mount(d, maxNodes-1, maxNodes)
	if e != api.OK {
		t.Fatal(e)
	}
	for w.Use(1).Nodes < maxNodes {
		if no, e := w.Make(api.Node{Dev: 1, Kind: 1, Up: w.Use(1).Nodes}); no == 0 || e != api.OK {
			t.Fatalf("Make = %d, %d with %v", no, e, w.Use(1))
		}
	}
	if no, e := w.Make(api.Node{Dev: 1, Kind: 3}); no != 0 || e != api.ErrNodes {
		t.Errorf("Make = %d, %d with %v", no, e, w.Use(1))
	}
	for w.Use(2).Blocks < maxNodes-1 {
		if no, e := w.Make(api.Node{Dev: 2, Kind: 2, Data: "x"}); no == 0 || e != api.OK {
			t.Fatalf("Make = %d, %d with %v", no, e, w.Use(2))
		}
	}
	if no, e := w.Make(api.Node{Dev: 2, Kind: 2, Data: "x"}); no != 0 || e != api.ErrSpace {
		t.Errorf("Make = %d, %d with %v", no, e, w.Use(2))
	}
	for no := root + 1; no <= 3*maxNodes; no++ {
		w.Kill(no)
	}
	for x, want := range []api.Space{{}, {Blocks: 2, Nodes: 2, MostBlocks: maxBlocks, MostNodes: maxNodes}, {Blocks: 1, Nodes: 1, MostBlocks: maxNodes - 1, MostNodes: maxNodes}} {
		if got := w.Use(x); got != want {
			t.Errorf("Use(%d) = %v, want %v", x, got, want)
		}
	}
}

// P14.2: a long way down, across a mount in its middle, doesn't take longer than its length.
func TestDeep(t *testing.T) {
	const deep = 40000
	w, e := mount.New(maxBlocks, maxNodes)
	if e != api.OK {
		t.Fatal(e)
	}
	begun := time.Now()
	last, path := 1, strings.Builder{}
	for k := range deep {
		if k == deep/2 {
			root, e := w.Mount(last, maxBlocks, maxNodes)
			if e != api.OK {
				t.Fatal(e)
			}
			last = root
		}
		up, _ := w.Get(last)
		no, e := w.Make(api.Node{Dev: up.Dev, Kind: 1, Up: last})
		if e != api.OK {
			t.Fatal(e)
		}
		up.Ents = []api.Ent{{Name: fmt.Sprint(k), No: no}}
		w.Set(up)
		path.WriteString("/" + fmt.Sprint(k))
		last = no
	}
	for range 3 {
		if got, ok := w.Where(last); got != path.String() || !ok {
			t.Fatalf("Where gives %d bytes, %v, want %d", len(got), ok, path.Len())
		}
		if !w.Within(last, 1) || !w.Within(last, 2) || w.Within(last, last+1) || w.Busy(last) || !w.Busy(2) {
			t.Error("a directory is not within those above it, or the other way round")
		}
	}
	if took := time.Since(begun); took > time.Minute {
		t.Errorf("%d directories took %v", deep, took)
	}
}

// P14.1 to P14.4, beyond the sequences above: the bytes of the text are the steps.
func FuzzMount(f *testing.F) {
	for _, s := range []string{"", "a", "aaa", "\x00\x01\x02\x03\x04\x05\x06\x07", "aAbBcCdDeE", "\xff\xfe\x80\x7f", "0000111122223333"} {
		f.Add(s, uint64(1), 5, 5)
		f.Add(s, uint64(2), math.MaxInt, math.MinInt)
	}
	f.Fuzz(func(t *testing.T, s string, seed uint64, blocks, nodes int) {
		if _, e := quota.New(blocks, nodes); e != api.OK {
			if w, got := mount.New(blocks, nodes); w != nil || got != e {
				t.Fatalf("New(%d, %d) = %v, %d", blocks, nodes, w, got)
			}
			blocks, nodes = 9, 9
		}
		b := opened(t, blocks, nodes)
		for k := range min(len(s), 40) {
			random(b, rand.New(rand.NewPCG(seed, uint64(s[k]))))
		}
		b.all()
	})
}
