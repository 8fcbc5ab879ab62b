package drop_test

import (
	"fmt"
	"maps"
	"math"
	"math/rand/v2"
	"slices"
	"strings"
	"testing"
	"time"

	"ragpicker/api"
	"ragpicker/bring"
	"ragpicker/drop"
	"ragpicker/ents"
	"ragpicker/mount"
	"ragpicker/table"
)

// P18.2: the chapter's example.
func TestExample(t *testing.T) {
	w, e := mount.New(9, 9)
	if e != api.OK {
		t.Fatal(e)
	}
	f, e := bring.File(w, root, 0, 1, "f", 0o600, "abc")
	if e != api.OK || bring.Hard(w, root, 0, f, 1, "g") != api.OK {
		t.Fatal(f, e)
	}
	if e := drop.Unlink(w, root, 1, 1, "f"); e != api.OK {
		t.Errorf("Unlink = %d", e)
	}
	if n, ok := w.Get(f); !ok || n.Links != 1 || n.Data != "abc" {
		t.Errorf("the file is %+v, %v", n, ok)
	}
}

// P18.1, P18.2: what README.md shows.
func TestReadme(t *testing.T) {
	b := opened(t)
	c := api.Cred{UID: 5, GID: 6}
	b.is(mkdir(root, 7, 1, "d", 0o1777), answer{no: 2})
	b.is(mkfile(c, 8, 2, "x", 0o640, "abc"), answer{no: 3})
	b.is(hard(c, 8, 3, 2, "y"), answer{})
	d, n, e := drop.Leave(b.w, c, 2, "x")
	if d.No != 2 || n.No != 3 || e != api.OK {
		t.Errorf("Leave = %+v, %+v, %d", d, n, e)
	}
	b.fails(leave(api.Cred{UID: 9}, 2, "x"), api.ErrPerm)
	b.fails(leave(c, 1, "d"), api.ErrAccess)
	b.fails(leave(c, 2, "z"), api.ErrNone)
	b.fails(unlink(api.Cred{UID: 9}, 9, 2, "x"), api.ErrPerm)
	b.fails(unlink(root, 9, 1, "d"), api.ErrDir)
	b.fails(rmdir(root, 9, 1, "d"), api.ErrNotEmpty)
	b.fails(rmdir(c, 9, 2, "x"), api.ErrNotDir)
	b.is(unlink(c, 9, 2, "x"), answer{})
	if n := b.got(3); n.Links != 1 || n.Ctime != 9 {
		t.Errorf("the file is %+v", n)
	}
	b.fails(unlink(c, 9, 2, "x"), api.ErrNone)
	b.is(unlink(c, 10, 2, "y"), answer{})
	b.gone(3)
	b.is(rmdir(root, 11, 1, "d"), answer{})
	b.gone(2)
}

// P18.1, P18.2: a nil World is ErrArg, also where other things are wrong; Less of it does nothing.
func TestNilWorld(t *testing.T) {
	for _, c := range append(users, root) {
		for _, dir := range append([]int{1, 2, 3}, nowhere...) {
			for s := range noNames {
				for _, q := range append(all(c, 7, dir, s), all(c, -7, 1, "a")...) {
					if got := q.do(nil); !got.equal(answer{e: wrong}) {
						t.Errorf("%v of a nil World = %v, want error 1", q, got)
					}
				}
			}
			for _, links := range []int{math.MinInt, -1, 0, 1, 2, math.MaxInt} {
				drop.Less(nil, 7, api.Node{No: dir, Dev: 1, Kind: fileKind, Links: links})
			}
		}
	}
}

// P18.1, P18.2: a World that New did not create has no node.
func TestEmptyWorld(t *testing.T) {
	for _, w := range []*mount.World{{}, {Table: table.New()}, {Table: &table.Table{}}} {
		for _, dir := range append([]int{1, 2}, nowhere...) {
			for _, q := range append(all(root, 0, dir, "a"), all(users[0], 0, dir, "..")...) {
				if got := q.do(w); !got.equal(answer{e: none}) {
					t.Errorf("%v of an empty World = %v, want error 5", q, got)
				}
			}
			drop.Less(w, 7, api.Node{No: dir, Dev: 1, Kind: fileKind, Links: 2})
			if w.Len() != 0 {
				t.Errorf("Less brought %d nodes", w.Len())
			}
		}
	}
}

// hut is a world with nodes of all kinds, on three mounts; the comments tell the numbers.
func hut(t *testing.T) *both {
	b := opened(t)
	a := b.put(1, "a", api.Node{Kind: dirKind, Mode: 0o1777, UID: 7}) // 2: /a
	f := b.file(a, "f", "in /a\n")                                    // 3: /a/f, and /g
	b.name(1, "g", f)
	b.linked(f, 2)
	b.link(a, "l", "../a/f")                                            // 4: /a/l
	m := b.dir(a, "m")                                                  // 5: /a/m, covered
	b.file(m, "h", "hidden")                                            // 6: /a/m/h, hidden
	r := b.cover(m)                                                     // 7: the root at /a/m
	b.file(r, "x", "on it")                                             // 8: /a/m/x
	d := b.dir(r, "d")                                                  // 9: /a/m/d, covered
	b.link(d, "h", "hidden, too")                                       // 10: /a/m/d/h, hidden
	s := b.cover(d)                                                     // 11: the root at /a/m/d
	b.link(s, "y", "/")                                                 // 12: /a/m/d/y
	b.put(a, "o", api.Node{Kind: 0, Mode: 0o777, Data: "of no kind"})   // 13: /a/o
	b.put(1, "u", api.Node{Kind: 77, Mode: 0o777, Data: "of another"})  // 14: /u
	e := b.put(a, "e", api.Node{Kind: dirKind, Mode: 0o750, UID: 5})    // 15: /a/e, empty
	b.put(s, "e", api.Node{Kind: dirKind, Mode: 0o777, UID: 7, GID: 7}) // 16: /a/m/d/e, empty
	b.put(e, "b", api.Node{Kind: fileKind, UID: 5, GID: 5})             // 17: /a/e/b
	b.put(a, "i", api.Node{Kind: dirKind, UID: 5})                      // 18: /a/i, empty
	b.name(a, "n", 99)                                                  // /a/n has no node
	if len(b.p.nodes) != 18 || b.w.Len() != 18 {
		t.Fatal("a fault of this test")
	}
	return b
}

// P18.1, P18.2: all functions, of all numbers and all names, for users of each sort, in the world hut.
func TestHut(t *testing.T) {
	b := hut(t)
	done := 0
	for _, c := range users {
		for dir := 0; dir <= 19; dir++ {
			for _, s := range []string{"a", "b", "d", "e", "f", "g", "h", "i", "l", "m", "n", "o", "u", "x", "y", ".."} {
				for _, q := range all(c, 100+dir, dir, s) {
					want := b.p.ought(q)
					switch {
					case want.e != accepted:
						b.fails(q, want.e)
					case q.what == "Leave":
						b.ok(q)
					default:
						hut(t).is(q, answer{})
						done++
					}
				}
			}
		}
	}
	if done < 50 {
		t.Errorf("only %d names went", done)
	}
	for no := range 20 {
		b := hut(t)
		for now := range 3 {
			b.is(less(now, b.p.nodes[no]), answer{})
			b.is(less(now, api.Node{No: no}), answer{})
		}
	}
}

// P18.1, P18.2: each function is ErrNone for a directory's number without a node, for whomever and with whatever name.
func TestNoNode(t *testing.T) {
	b := hut(t)
	gone := []int{3, 4, 5, 6, 8, 9, 12, 13, 14, 15, 18}
	for _, no := range gone {
		b.kill(no)
	}
	for _, no := range append(append([]int{19, 20, 32, 100}, gone...), nowhere...) {
		for _, c := range users {
			for s := range noNames {
				for _, q := range append(all(c, 7, no, s), all(c, 7, no, "f")...) {
					b.fails(q, none)
				}
			}
		}
		b.is(less(7, api.Node{No: no, Dev: 1, Kind: fileKind, Links: 2}), answer{})
		b.is(less(7, api.Node{No: no, Dev: 1, Kind: dirKind, Links: 1}), answer{})
	}
	// The number behind the last is a node's as soon as one comes, and is without one again behind the call.
	b.is(mkdir(root, 7, 1, "new", 0o700), answer{no: 19})
	b.is(mkfile(root, 7, 19, "x", 0o700, ""), answer{no: 20})
	b.fails(unlink(root, 7, 19, "y"), none)
	b.ok(unlink(root, 7, 19, "x"))
	b.ok(rmdir(root, 7, 1, "new"))
	b.fails(unlink(root, 7, 19, "x"), none)
	b.fails(rmdir(root, 7, 19, "x"), none)
}

// P18.1, P18.2: what is no directory is ErrNotDir in its place, for everybody and with every name, also where it has entries.
func TestNotDir(t *testing.T) {
	b := opened(t)
	f, d := b.file(1, "f", ""), b.dir(1, "d")
	for _, kind := range append([]int{fileKind, linkKind}, others...) {
		for _, mode := range []int{0, 0o333, 0o777, 0o1777} {
			no := b.make(api.Node{Dev: 1, Kind: kind, Mode: mode, UID: 5, GID: 6, Data: "/", Ents: []api.Ent{{Name: "a", No: f}, {Name: "b", No: d}}})
			for _, c := range users {
				for _, s := range []string{"a", "b", "c", "", "..", "a/", strings.Repeat("a", 256)} {
					for _, q := range all(c, 7, no, s) {
						b.is(q, answer{e: notDir})
					}
				}
			}
		}
	}
}

// P18.1, P18.2: each text that is no name has its error, ahead of ErrAccess, and each that is one can go.
func TestNames(t *testing.T) {
	b := opened(t)
	d := b.put(1, "d", api.Node{Kind: dirKind, UID: 5, GID: 6})
	for s, e := range noNames {
		for _, c := range users {
			for _, q := range all(c, 7, d, s) {
				b.fails(q, e)
			}
		}
	}
	// Also where a directory has, against the document, a name that is none.
	x := b.make(api.Node{Dev: 1, Kind: dirKind, Mode: 0o777, Ents: []api.Ent{{Name: "", No: d}, {Name: "..", No: d}, {Name: "a/b", No: d}}})
	for _, s := range []string{"", "..", "a/b"} {
		for _, q := range all(root, 7, x, s) {
			b.fails(q, wrong)
		}
	}
	for _, s := range okNames {
		for _, c := range users {
			e := access
			if c.UID == 0 {
				e = none
			}
			for _, q := range all(c, 7, d, s) {
				b.fails(q, e)
			}
		}
	}
	for i, s := range okNames {
		no := b.file(d, s, s)
		b.ok(leave(root, d, s))
		b.ok(unlink(root, i, d, s))
		b.gone(no)
		no = b.dir(d, s)
		b.ok(rmdir(root, i, d, s))
		b.gone(no)
	}
	for _, s := range okNames {
		b.file(d, s, s)
	}
	for i, s := range okNames {
		b.ok(unlink(root, 7, d, s))
		if got := b.got(d); len(got.Ents) != len(okNames)-i-1 || !ents.Check(got.Ents) || ents.Find(got.Ents, s) != 0 {
			t.Errorf("behind Unlink of %q the entries are %v", s, got.Ents)
		}
		for _, q := range all(root, 7, d, s) {
			b.fails(q, none)
		}
	}
}

// P18.1: Leave answers the directory and the node with all their fields, as they are, and changes nothing.
func TestLeave(t *testing.T) {
	b := opened(t)
	n := api.Node{Dev: 1, Kind: fileKind, Mode: 0o1642, UID: 25, GID: 26, Mtime: 27, Ctime: 28, Links: 29, Up: 30, Data: "data", Ents: []api.Ent{{Name: "n", No: 31}}}
	n.No = b.make(n)
	m := api.Node{Dev: 1, Kind: dirKind, Mode: 0o641, UID: 35, GID: 36, Mtime: 37, Ctime: 38, Links: 39, Up: 40, Data: "of a directory", Ents: []api.Ent{{Name: "m", No: n.No}}}
	m.No = b.make(m)
	d := api.Node{Dev: 1, Kind: dirKind, Mode: 0o1753, UID: 15, GID: 16, Mtime: 17, Ctime: 18, Links: 19, Up: 20, Data: "-"}
	d.Ents = []api.Ent{{Name: "a", No: n.No}, {Name: "b", No: m.No}, {Name: "c", No: n.No}, {Name: "d", No: 99}, {Name: "e", No: 1}}
	d.No = b.make(d)
	for _, s := range []string{"a", "c"} {
		b.is(leave(root, d.No, s), answer{dir: d, node: n})
		b.is(leave(api.Cred{UID: 15, GID: 1}, d.No, s), answer{dir: d, node: n})
		b.is(leave(api.Cred{UID: 25, GID: 1}, d.No, s), answer{dir: d, node: n})
		b.fails(leave(api.Cred{UID: 35, GID: 1}, d.No, s), refused)
		b.fails(leave(api.Cred{UID: 25, GID: 16}, d.No, s), access)
	}
	b.is(leave(root, d.No, "b"), answer{dir: d, node: m})
	b.is(leave(api.Cred{UID: 35, GID: 1}, d.No, "b"), answer{dir: d, node: m})
	b.is(leave(root, m.No, "m"), answer{dir: m, node: n})
	b.fails(leave(root, d.No, "d"), none)
	b.fails(leave(root, d.No, "f"), none)
	b.is(leave(root, d.No, "e"), answer{dir: d, node: b.p.nodes[1]})
	// The kind of the node, its own mode and its entries are no errors of Leave's, and neither is a mount that is full.
	for _, kind := range append([]int{dirKind, fileKind, linkKind}, others...) {
		for _, mode := range []int{0, 0o777, 0o1000, 0o1777, -1} {
			x := b.make(api.Node{Dev: 1, Kind: kind, Mode: mode, UID: 5, GID: 6, Ents: []api.Ent{{Name: "a", No: 1}}})
			b.name(1, "x", x)
			b.ok(leave(root, 1, "x"))
		}
	}
	full := limited(t, 1, 2)
	full.file(1, "f", "")
	full.ok(leave(root, 1, "f"))
	full.ok(unlink(root, 7, 1, "f"))
}

// P18.1, P18.2: Write and Search permission, by every mode of the directory, and its sticky bit, for users of each sort.
func TestModes(t *testing.T) {
	b := opened(t)
	d := b.dir(1, "d")
	for mode := range 1024 {
		b.open(d, mode, 5, 6)
		for i, c := range users {
			// Every other user's node is their own.
			own := 4000
			if i%2 == 0 {
				own = c.UID
			}
			b.put(d, "f", api.Node{Kind: fileKind, UID: own})
			b.put(d, "e", api.Node{Kind: dirKind, UID: own})
			bits, want := mode&7, accepted
			switch {
			case c.UID == 0:
				bits = 7
			case c.UID == 5:
				bits = mode >> 6 & 7
			case c.GID == 6:
				bits = mode >> 3 & 7
			}
			switch {
			case bits&3 != 3:
				want = access
			case mode >= 512 && c.UID != 0 && c.UID != 5 && c.UID != own:
				want = refused
			}
			for _, q := range []call{leave(c, d, "f"), leave(c, d, "e"), unlink(c, mode, d, "f"), rmdir(c, mode, d, "e")} {
				if want == accepted {
					b.ok(q)
					continue
				}
				b.fails(q, want)
			}
			for _, q := range all(c, mode, d, "n") {
				e := none
				if want == access {
					e = access
				}
				b.fails(q, e)
			}
			if want != accepted {
				b.kill(b.p.last)
				b.kill(b.p.last - 1)
			}
		}
	}
}

// P18.1, P18.2: a directory with the sticky bit and one without it, for the directory's owner, the node's owner, another user
// and user 0, with what each of them takes away.
func TestSticky(t *testing.T) {
	ofDir, ofNode, other := api.Cred{UID: 5, GID: 1}, api.Cred{UID: 8, GID: 1}, api.Cred{UID: 7, GID: 1}
	inGroup, ofNodesGroup := api.Cred{UID: 7, GID: 6}, api.Cred{UID: 7, GID: 9}
	for _, x := range []struct {
		mode        int
		may, mayNot []api.Cred
	}{
		{0o777, []api.Cred{ofDir, ofNode, other, inGroup, ofNodesGroup, root}, nil},
		{0o1777, []api.Cred{ofDir, ofNode, root, {GID: 6}, {UID: 5}, {UID: 8, GID: 9}}, []api.Cred{other, inGroup, ofNodesGroup, {UID: 6, GID: 5}, {UID: 9, GID: 8}, {UID: -1}, {UID: 1}}},
		{0o1333, []api.Cred{ofDir, ofNode, root}, []api.Cred{other, inGroup, ofNodesGroup}},
		{0o333, []api.Cred{ofDir, ofNode, other, inGroup, ofNodesGroup, root}, nil},
	} {
		for _, what := range []string{"file", "link", "directory", "another"} {
			for _, c := range append(slices.Clone(x.may), x.mayNot...) {
				for _, nodeMode := range []int{0, 0o777, 0o1777} {
					b := opened(t)
					d := b.put(1, "d", api.Node{Kind: dirKind, Mode: x.mode, UID: 5, GID: 6})
					n := api.Node{Kind: map[string]int{"file": fileKind, "link": linkKind, "directory": dirKind, "another": 9}[what], Mode: nodeMode, UID: 8, GID: 9}
					no := b.put(d, "x", n)
					q := unlink(c, 7, d, "x")
					if what == "directory" {
						q = rmdir(c, 7, d, "x")
					}
					if slices.Contains(x.may, c) {
						b.ok(leave(c, d, "x"))
						b.ok(q)
						b.gone(no)
						continue
					}
					// A wrong kind is told behind it.
					for _, q := range all(c, 7, d, "x") {
						b.fails(q, refused)
					}
				}
			}
		}
	}
	// The sticky bits of the node, and of the directory above, are nothing to it.
	b := opened(t)
	above := b.put(1, "above", api.Node{Kind: dirKind, Mode: 0o1777})
	d := b.put(above, "d", api.Node{Kind: dirKind, Mode: 0o777})
	b.put(d, "e", api.Node{Kind: dirKind, Mode: 0o1777})
	b.put(d, "f", api.Node{Kind: fileKind, Mode: 0o1777})
	b.ok(rmdir(other, 7, d, "e"))
	b.ok(unlink(other, 7, d, "f"))
	b.fails(rmdir(other, 7, above, "d"), refused)
	b.ok(rmdir(root, 7, above, "d"))
}

// P18.1, P18.2: permissions are those of the directory alone: not of what is above it, nor of the node, nor of what covers the
// directory, or is covered by it.
func TestPermissionsAlone(t *testing.T) {
	b := opened(t)
	c := api.Cred{UID: 7, GID: 8}
	closed := b.put(1, "closed", api.Node{Kind: dirKind})
	open := b.put(closed, "open", api.Node{Kind: dirKind, Mode: 0o003})
	b.put(open, "f", api.Node{Kind: fileKind, Data: "none of theirs"})
	b.put(open, "g", api.Node{Kind: fileKind, Data: "none of theirs"})
	b.put(open, "d", api.Node{Kind: dirKind})
	b.put(open, "e", api.Node{Kind: dirKind})
	b.ok(unlink(c, 9, open, "f"))
	b.ok(rmdir(c, 9, open, "d"))
	b.fails(rmdir(c, 9, closed, "open"), access)
	over := b.cover(open)
	b.file(over, "g", "")
	b.dir(over, "e")
	b.fails(unlink(c, 9, over, "g"), access)
	b.fails(rmdir(c, 9, over, "e"), access)
	b.open(over, 0o1777, 1, 1)
	b.fails(unlink(c, 9, over, "g"), refused)
	b.ok(unlink(c, 9, open, "g"))
	b.open(over, 0o777, 0, 0)
	b.open(open, 0, 0, 0)
	b.fails(rmdir(c, 9, open, "e"), access)
	b.ok(unlink(c, 9, over, "g"))
	b.ok(rmdir(c, 9, over, "e"))
	b.open(open, 0o1003, 0, 0)
	b.fails(rmdir(c, 9, open, "e"), refused)
	b.open(open, 0o1300, 7, 0)
	b.ok(rmdir(c, 9, open, "e"))
}

// P18.1, P18.2: a name exists by the very same bytes only; a name whose number no node has leads to nothing.
func TestNoEntry(t *testing.T) {
	b := opened(t)
	d := b.put(1, "d", api.Node{Kind: dirKind, Mode: 0o1777, UID: 5})
	x := b.file(d, "ab", "")
	b.dir(d, "b")
	b.link(d, "c", "ab")
	for _, c := range []api.Cred{root, users[0], users[3]} {
		for _, s := range []string{"a", "abc", "AB", "ab ", "aB", "B", "bb", "b.", "cc", "d", " ", "~", "\x01", "\xff", strings.Repeat("b", 255)} {
			for _, q := range all(c, 7, d, s) {
				b.fails(q, none)
			}
		}
		// A name of another directory isn't one of this one.
		for _, q := range append(all(c, 7, d, "d"), all(root, 7, 1, "ab")...) {
			b.fails(q, none)
		}
	}
	b.kill(x)
	for _, no := range []int{x, b.p.last + 1, 9999, 65535, 65536, 65537, 9 * 65536, 1 << 31, 1 << 32, 1<<32 + 1, 1<<32 + d, math.MaxInt} {
		b.is(touch(d, 9, api.Ent{Name: "ab", No: no}, api.Ent{Name: "b", No: 4}, api.Ent{Name: "z", No: no}), answer{})
		for _, c := range []api.Cred{root, users[0], users[3]} {
			for _, q := range append(all(c, 10, d, "ab"), all(c, 10, d, "z")...) {
				b.fails(q, none)
			}
		}
	}
	// The names of a directory that went, with which a mount is covered.
	m := b.dir(1, "m")
	b.file(b.cover(m), "x", "")
	b.kill(m)
	for _, q := range all(root, 7, 1, "m") {
		b.fails(q, none)
	}
	for _, q := range all(root, 7, m, "x") {
		b.fails(q, none)
	}
}

// P18.1, P18.2: a directory that a mount covers is ErrBusy for everybody who may be there, whatever is in it or in the mount.
func TestBusy(t *testing.T) {
	b := opened(t)
	at := 1
	for k := range maxMounts - 1 {
		d := b.put(at, "d", api.Node{Kind: dirKind, Mode: 0o1777, UID: 5})
		m := b.dir(d, "m")
		l := b.dir(d, "l")
		if k%2 == 0 {
			b.file(m, "hidden", "")
		}
		over := b.cover(m)
		for _, c := range users {
			// Also for those whom the sticky bit keeps away from it.
			for _, q := range all(c, 7, d, "m") {
				b.fails(q, busy)
			}
		}
		for _, q := range all(root, 7, d, "m") {
			b.fails(q, busy)
		}
		b.open(d, 0o1775, 5, 6)
		for _, q := range all(users[3], 7, d, "m") {
			b.fails(q, access)
		}
		// A directory below which a mount is isn't covered: it is not empty.
		b.ok(leave(root, at, "d"))
		b.fails(rmdir(root, 7, at, "d"), notEmpty)
		b.fails(unlink(root, 7, at, "d"), isDir)
		// The directory beside it, the file that the mount hides and what is on the mount can go.
		b.ok(rmdir(root, 7, d, "l"))
		b.gone(l)
		if k%2 == 0 {
			b.ok(unlink(root, 7, m, "hidden"))
		}
		b.file(over, "f", "")
		b.dir(over, "e")
		b.ok(unlink(root, 7, over, "f"))
		b.ok(rmdir(root, 7, over, "e"))
		for _, q := range all(root, 7, d, "m") {
			b.fails(q, busy)
		}
		at = over
	}
}

// P18.1, P18.2: only the node's number tells whether a mount covers it, by whatever name it is reached.
func TestBusyByNumber(t *testing.T) {
	b := opened(t)
	d, e := b.dir(1, "d"), b.dir(1, "e")
	m := b.dir(d, "m")
	over := b.cover(m)
	b.name(e, "other", m)
	b.name(e, "m", b.dir(1, "x"))
	for _, q := range all(root, 7, e, "other") {
		b.fails(q, busy)
	}
	b.ok(leave(root, e, "m"))
	b.ok(rmdir(root, 7, e, "m"))
	// A mount's root isn't covered, and so a name for it can go, but it can't.
	b.name(d, "root", over)
	b.linked(over, 3)
	b.file(over, "f", "")
	b.fails(rmdir(root, 8, d, "root"), notEmpty)
	b.fails(unlink(root, 8, d, "root"), isDir)
	b.ok(unlink(root, 9, over, "f"))
	b.ok(rmdir(root, 10, d, "root"))
	for k, links := range []int{2, 1, 0, -1} {
		if n := b.got(over); n.Links != links || n.Ctime != 10+k || n.Mtime != 9 {
			t.Errorf("the root is %+v, want Links %d", n, links)
		}
		b.name(d, "root", over)
		b.ok(rmdir(root, 11+k, d, "root"))
	}
	if b.w.Root(2) != over || b.w.Over(m) != over || b.w.Use(2).Nodes != 1 {
		t.Errorf("the root of mount 2 is %d, want %d", b.w.Root(2), over)
	}
	// The top likewise, where it is in a directory.
	b.name(d, "top", 1)
	b.fails(rmdir(root, 8, d, "top"), notEmpty)
	b.fails(unlink(root, 8, d, "top"), isDir)
	b.fails(leave(users[3], 1, "d"), access)
	// A directory that is in itself is not empty.
	b.name(e, "e", e)
	b.fails(rmdir(root, 8, e, "e"), notEmpty)
	b.fails(rmdir(root, 8, 1, "e"), notEmpty)
	b.fails(unlink(root, 8, e, "e"), isDir)
}

// P18.2: what is of each kind, to each function; entries matter to a directory only.
func TestKinds(t *testing.T) {
	for _, kind := range append([]int{dirKind, fileKind, linkKind}, others...) {
		for _, l := range [][]api.Ent{nil, {}, {{Name: "a", No: 1}}, {{Name: "a", No: 99}}, {{Name: "a", No: 1}, {Name: "b", No: 3}}} {
			for _, mode := range []int{0, 0o777, 0o1777} {
				b := opened(t)
				d := b.dir(1, "d")
				n := api.Node{Kind: kind, Mode: mode, UID: 8, GID: 9, Data: "data", Ents: l}
				no := b.put(d, "x", n)
				switch {
				case kind != dirKind:
					b.fails(rmdir(users[3], 7, d, "x"), notDir)
					b.ok(unlink(users[3], 7, d, "x"))
				case len(l) > 0:
					b.fails(unlink(users[3], 7, d, "x"), isDir)
					b.fails(rmdir(users[3], 7, d, "x"), notEmpty)
					b.is(touch(no, 8), answer{})
					b.ok(rmdir(users[3], 9, d, "x"))
				default:
					b.fails(unlink(users[3], 7, d, "x"), isDir)
					b.ok(rmdir(users[3], 7, d, "x"))
				}
				b.gone(no)
				if got := b.got(d); len(got.Ents) != 0 {
					t.Errorf("the entries are %v", got.Ents)
				}
				for _, q := range all(users[3], 10, d, "x") {
					b.fails(q, none)
				}
			}
		}
	}
}

// P18.1: Less of a node of each number of names: it has one less, and goes if none is left.
func TestLess(t *testing.T) {
	for _, kind := range append([]int{dirKind, fileKind, linkKind}, others...) {
		for _, links := range []int{1, 2, 3, 999, 1000, 1001, 1 << 31, 1<<32 + 1, math.MaxInt, 0, -1, -2, -1000, math.MinInt, math.MinInt + 1} {
			b := opened(t)
			n := api.Node{Dev: 1, Kind: kind, Mode: 0o1753, UID: 11, GID: 12, Mtime: 13, Ctime: 14, Links: links, Up: 15, Data: "data", Ents: []api.Ent{{Name: "a", No: 16}}}
			n.No = b.make(n)
			used := b.w.Use(1)
			for now := range 3 {
				b.is(less(now, n), answer{})
				if links <= 1+now {
					b.gone(n.No)
					if got := b.w.Use(1); got.Nodes != 1 || got.Blocks != 1 {
						t.Errorf("%v is used, and before %v", got, used)
					}
					continue
				}
				n.Links, n.Ctime = links-1-now, now
				if got := b.got(n.No); !alike(got, n) {
					t.Errorf("behind Less the node is %+v, want %+v", got, n)
				}
				if got := b.w.Use(1); got != used {
					t.Errorf("%v is used, and before %v", got, used)
				}
			}
		}
	}
}

// P18.1: a node is what its number says: what somebody changed in the one that is handed in doesn't come into the world.
func TestLessOfChanged(t *testing.T) {
	for name, change := range map[string]func(n *api.Node){
		"the mount": func(n *api.Node) { n.Dev = 2 }, "no mount": func(n *api.Node) { n.Dev = 0 },
		"the kind": func(n *api.Node) { n.Kind = dirKind }, "no kind": func(n *api.Node) { n.Kind = 0 },
		"the mode": func(n *api.Node) { n.Mode = 0o777 }, "the owner": func(n *api.Node) { n.UID = 21 }, "the group": func(n *api.Node) { n.GID = 22 },
		"Mtime": func(n *api.Node) { n.Mtime = 23 }, "Ctime": func(n *api.Node) { n.Ctime = 24 }, "Up": func(n *api.Node) { n.Up = 25 },
		"Links, to none": func(n *api.Node) { n.Links = 0 }, "Links, to one": func(n *api.Node) { n.Links = 1 },
		"Links, to two": func(n *api.Node) { n.Links = 2 }, "Links, to many": func(n *api.Node) { n.Links = 1000 }, "Links, to fewer": func(n *api.Node) { n.Links = -1 },
		"the data": func(n *api.Node) { n.Data = strings.Repeat("other", 1000) }, "the entries": func(n *api.Node) { n.Ents = []api.Ent{{Name: "other", No: 1}} },
		"no entries": func(n *api.Node) { n.Ents = nil }, "everything": func(n *api.Node) { *n = api.Node{No: n.No} }, "an entry": func(n *api.Node) { n.Ents[0].No = 99 },
	} {
		for links := 1; links <= 3; links++ {
			b := opened(t)
			b.cover(b.dir(1, "m"))
			n := api.Node{Dev: 1, Kind: fileKind, Mode: 0o1753, UID: 11, GID: 12, Mtime: 13, Ctime: 14, Links: links, Up: 15, Data: "data", Ents: []api.Ent{{Name: "a", No: 16}}}
			n.No = b.make(n)
			changed := b.got(n.No)
			change(&changed)
			b.is(less(7, changed), answer{})
			n.Links, n.Ctime = links-1, 7
			if links == 1 {
				b.gone(n.No)
			} else if got := b.got(n.No); !alike(got, n) {
				t.Errorf("with %s changed: behind Less the node is %+v, want %+v", name, got, n)
			}
		}
	}
	// One that is older than the world's.
	b := opened(t)
	old := b.got(b.file(1, "f", "data"))
	b.ok(hard(root, 7, old.No, 1, "g"))
	b.is(less(8, old), answer{})
	if n := b.got(old.No); n.Links != 1 || n.Ctime != 8 {
		t.Errorf("behind Less the node is %+v", n)
	}
	b.is(less(9, old), answer{})
	b.gone(old.No)
	b.is(less(10, old), answer{})
	// A number that the caller changed is that of another node.
	f, g := b.file(1, "h", "data"), b.file(1, "i", "data")
	n := b.got(f)
	n.No = g
	b.is(less(11, n), answer{})
	b.gone(g)
	b.got(f)
}

// P18.1: Less of a mount's root, which can't go, and of a directory that is covered, and so on: mount.Kill's answer counts.
func TestLessOfRoots(t *testing.T) {
	b := opened(t)
	m := b.dir(1, "m")
	over := b.cover(m)
	for _, no := range []int{1, over} {
		for k, links := range []int{0, -1, -2} {
			b.is(less(7+k, b.got(no)), answer{})
			if n := b.got(no); n.Links != links || n.Ctime != 7+k || n.Mtime != 0 {
				t.Errorf("behind Less the root is %+v, want Links %d", n, links)
			}
		}
		b.linked(no, 3)
		b.is(less(20, b.got(no)), answer{})
	}
	b.is(less(21, b.got(m)), answer{})
	b.gone(m)
	if b.w.Root(2) != over || b.w.Devs() != 2 {
		t.Errorf("the root of mount 2 is %d", b.w.Root(2))
	}
}

// P18.1: Less asks for no name: the entries of all directories stay as they are.
func TestLessAlone(t *testing.T) {
	b := opened(t)
	d := b.dir(1, "d")
	f := b.file(d, "f", "data")
	b.ok(hard(root, 5, f, 1, "g"))
	b.is(less(7, b.got(f)), answer{})
	if got := b.got(d); got.Mtime != 0 || got.Ctime != 0 || ents.Find(got.Ents, "f") != f {
		t.Errorf("the directory is %+v", got)
	}
	b.is(less(8, b.got(f)), answer{})
	b.gone(f)
	if got := b.got(d); got.Mtime != 0 || ents.Find(got.Ents, "f") != f {
		t.Errorf("the directory is %+v", got)
	}
	for _, q := range append(all(root, 7, d, "f"), all(root, 7, 1, "g")...) {
		b.fails(q, none)
	}
}

// P18.2: each field of what is left, and of the directory behind the call, with values that differ from each other; all other
// nodes are as they were.
func TestLeft(t *testing.T) {
	for _, x := range []struct {
		kind  int
		links int
		q     call
	}{
		{fileKind, 2, unlink(api.Cred{UID: 41, GID: 42}, 51, 2, "n")}, {linkKind, 3, unlink(root, 52, 2, "n")}, {9, 1000, unlink(api.Cred{UID: 41, GID: 42}, 53, 2, "n")},
		{dirKind, 2, rmdir(api.Cred{UID: 41, GID: 42}, 54, 2, "n")}, {dirKind, 3, rmdir(root, 55, 2, "n")}, {0, 4, unlink(root, 56, 2, "n")},
		{fileKind, 1, unlink(api.Cred{UID: 41, GID: 42}, 57, 2, "n")}, {linkKind, 1, unlink(root, 58, 2, "n")}, {9, 1, unlink(root, 59, 2, "n")},
		{dirKind, 1, rmdir(api.Cred{UID: 41, GID: 42}, 60, 2, "n")}, {dirKind, 1, rmdir(root, -61, 2, "n")},
	} {
		b := opened(t)
		d := b.put(1, "d", api.Node{Kind: dirKind, Mode: 0o077, UID: 11, GID: 12, Mtime: 13, Ctime: 14, Links: 15, Data: "-"})
		b.name(d, "m", 1)
		no := b.put(d, "n", api.Node{Kind: x.kind, Mode: 0o1753, UID: 21, GID: 22, Mtime: 23, Ctime: 24, Links: x.links, Data: "data"})
		other := b.put(d, "o", api.Node{Kind: x.kind, Mode: 0o1753, UID: 31, GID: 32, Mtime: 33, Ctime: 34, Links: 35, Data: "data"})
		b.ok(x.q)
		now := x.q.now
		wantDir := api.Node{No: 2, Dev: 1, Kind: 1, Mode: 0o077, UID: 11, GID: 12, Mtime: now, Ctime: now, Links: 15, Up: 1, Data: "-", Ents: []api.Ent{{Name: "m", No: 1}, {Name: "o", No: other}}}
		if got := b.got(d); !alike(got, wantDir) {
			t.Errorf("behind %v the directory is %+v, want %+v", x.q, got, wantDir)
		}
		want := api.Node{No: no, Dev: 1, Kind: x.kind, Mode: 0o1753, UID: 21, GID: 22, Mtime: 23, Ctime: now, Links: x.links - 1, Data: "data"}
		if x.kind == dirKind {
			want.Up = 2
		}
		if x.links == 1 {
			b.gone(no)
		} else if got := b.got(no); !alike(got, want) {
			t.Errorf("behind %v the node is %+v, want %+v", x.q, got, want)
		}
		if got := b.got(other); got.Links != 35 || got.Ctime != 34 {
			t.Errorf("behind %v another node is %+v", x.q, got)
		}
		if got := b.got(1); got.Mtime != 0 || got.Ctime != 0 {
			t.Errorf("behind %v the top is %+v", x.q, got)
		}
	}
}

// P18.1, P18.2: times are taken as they are handed in, whatever they are, also if they are before what they were.
func TestTimes(t *testing.T) {
	for _, now := range []int{0, 1, 50, 100, 1<<31 - 1, 1 << 31, 1<<32 + 1, 253402300799, 253402300800, -1, -9, math.MinInt, math.MaxInt} {
		b := opened(t)
		d := b.put(1, "d", api.Node{Kind: dirKind, Mtime: 50, Ctime: 60})
		f := b.put(d, "f", api.Node{Kind: fileKind, Mtime: 50, Ctime: 60, Links: 3})
		e := b.put(d, "e", api.Node{Kind: dirKind, Mtime: 50, Ctime: 60, Links: 2})
		b.name(d, "g", f)
		b.ok(unlink(root, now, d, "f"))
		if n, dir := b.got(f), b.got(d); n.Mtime != 50 || n.Ctime != now || dir.Mtime != now || dir.Ctime != now {
			t.Errorf("behind Unlink at %d: %+v, %+v", now, n, dir)
		}
		b.is(touch(d, 70, b.p.nodes[d].Ents...), answer{})
		b.ok(rmdir(root, now, d, "e"))
		if n, dir := b.got(e), b.got(d); n.Mtime != 50 || n.Ctime != now || dir.Mtime != now || dir.Ctime != now {
			t.Errorf("behind Rmdir at %d: %+v, %+v", now, n, dir)
		}
		b.is(less(now+1, b.got(f)), answer{})
		if n := b.got(f); n.Links != 1 || n.Ctime != now+1 || n.Mtime != 50 {
			t.Errorf("behind Less at %d: %+v", now+1, n)
		}
	}
}

// P18.2: what goes gives back its node and its blocks, and what has a name left gives back nothing.
func TestSpace(t *testing.T) {
	for _, size := range []int{0, 1, 2, 255, 511, 512, 513, 1023, 1024, 1025, 4096, 4097, 65537, 1<<20 - 512, 1<<20 - 1, 1 << 20} {
		blocks := (size + 511) / 512
		b := opened(t)
		m := b.cover(b.dir(1, "m"))
		for dev, dir := range []int{1, m} {
			used := b.w.Use(dev + 1)
			no := b.p.last + 1
			if dev == 1 && blocks > 900 {
				break
			}
			b.is(mkfile(root, 7, dir, "f", 0o600, strings.Repeat("x", size)), answer{no: no})
			b.ok(hard(root, 7, no, dir, "g"))
			full := b.w.Use(dev + 1)
			if full.Blocks != used.Blocks+blocks || full.Nodes != used.Nodes+1 {
				t.Fatalf("a fault of this test: %v, %v", full, used)
			}
			b.ok(unlink(root, 8, dir, "f"))
			if got := b.w.Use(dev + 1); got != full {
				t.Errorf("of %d bytes, with a name left: %v is used, want %v", size, got, full)
			}
			b.ok(unlink(root, 8, dir, "g"))
			if got := b.w.Use(dev + 1); got != used {
				t.Errorf("of %d bytes: %v is used, want %v", size, got, used)
			}
		}
	}
	b := opened(t)
	used := b.w.Use(1)
	b.is(mkdir(root, 7, 1, "d", 0), answer{no: 2})
	b.is(symlink(root, 7, 1, "l", strings.Repeat("x", 4096)), answer{no: 3})
	if got := b.w.Use(1); got.Blocks != used.Blocks+1 || got.Nodes != used.Nodes+2 {
		t.Fatal("a fault of this test")
	}
	b.ok(unlink(root, 8, 1, "l"))
	if got := b.w.Use(1); got.Blocks != used.Blocks+1 || got.Nodes != used.Nodes+1 {
		t.Errorf("behind Unlink %v is used", got)
	}
	b.ok(rmdir(root, 8, 1, "d"))
	if got := b.w.Use(1); got != used {
		t.Errorf("behind Rmdir %v is used, want %v", got, used)
	}
}

// P18.2: a mount that is full has room again for as much as went, and not for more.
func TestFull(t *testing.T) {
	b := limited(t, 4, 4)
	b.is(mkdir(root, 1, 1, "d", 0), answer{no: 2})
	b.is(mkfile(root, 1, 1, "f", 0, strings.Repeat("x", 513)), answer{no: 3})
	b.is(symlink(root, 1, 1, "l", "f"), answer{no: 4})
	b.is(mkfile(root, 1, 1, "g", 0, ""), answer{e: noNodes})
	b.ok(unlink(root, 2, 1, "l"))
	b.is(mkfile(root, 2, 1, "g", 0, "x"), answer{e: noSpace})
	b.is(mkfile(root, 2, 1, "g", 0, ""), answer{no: 5})
	b.ok(hard(root, 2, 3, 1, "h"))
	b.ok(unlink(root, 2, 1, "g"))
	b.ok(unlink(root, 3, 1, "f"))
	b.is(mkfile(root, 3, 1, "g", 0, "x"), answer{e: noSpace})
	b.ok(unlink(root, 3, 1, "h"))
	b.is(mkfile(root, 3, 1, "g", 0, strings.Repeat("x", 1025)), answer{e: noSpace})
	b.is(mkfile(root, 3, 1, "g", 0, strings.Repeat("x", 1024)), answer{no: 6})
	b.is(mkdir(root, 3, 1, "e", 0), answer{e: noSpace})
	b.ok(rmdir(root, 3, 1, "d"))
	b.is(mkdir(root, 3, 1, "e", 0), answer{no: 7})
	b.is(mkdir(root, 3, 1, "d", 0), answer{e: noSpace})
}

// P18.2: a name that is the first, the last, in the middle or the only one of its directory: the others stay in their order.
func TestPosition(t *testing.T) {
	names := []string{"\x01", "\n", " ", "-", "...", ".a", "0", "10", "9", "A", "B", "a", "a ", "a.", "aa", "ab", "b", "~", "\x7f", "\xc3\xa9", "e\u0301", "\xff", "\xff\xff", strings.Repeat("n", 255)}
	slices.Sort(names)
	for size := 1; size <= len(names); size++ {
		for i, s := range names[:size] {
			for _, kind := range []int{fileKind, linkKind, dirKind} {
				b := opened(t)
				d := b.dir(1, "d")
				n := b.p.nodes[d]
				for j, other := range names[:size] {
					n.Ents = append(n.Ents, api.Ent{Name: other, No: 100 + j})
				}
				b.set(n)
				b.put(d, s, api.Node{Kind: kind})
				q := unlink(root, 7, d, s)
				if kind == dirKind {
					q = rmdir(root, 7, d, s)
				}
				b.ok(q)
				want := slices.Delete(slices.Clone(n.Ents), i, i+1)
				if got := b.got(d).Ents; !slices.Equal(got, want) {
					t.Fatalf("%v: the entries are %v, want %v", q, got, want)
				}
			}
		}
	}
}

// P18.2: a node with two names, in one directory and in two: each of them may go first.
func TestTwoNames(t *testing.T) {
	for _, kind := range append([]int{fileKind, linkKind}, others...) {
		for _, second := range []string{"same", "other", "mounted"} {
			for _, order := range [][]int{{0, 1}, {1, 0}} {
				b := opened(t)
				top := 1
				if second == "mounted" {
					top = b.cover(b.dir(1, "mnt"))
				}
				d, e := b.dir(top, "d"), b.dir(top, "e")
				if second == "same" {
					e = d
				}
				no := b.put(d, "a", api.Node{Kind: kind, Data: "data"})
				b.ok(hard(root, 5, no, e, "b"))
				names := []call{unlink(users[3], 7, d, "a"), unlink(users[3], 8, e, "b")}
				b.ok(names[order[0]])
				if n := b.got(no); n.Links != 1 || n.Ctime != 7+order[0] || n.Data != "data" {
					t.Errorf("with a name left the node is %+v", n)
				}
				b.fails(names[order[0]], none)
				b.ok(leave(root, names[order[1]].dir, names[order[1]].name))
				b.ok(names[order[1]])
				b.gone(no)
				b.fails(names[order[1]], none)
				if len(b.got(d).Ents)+len(b.got(e).Ents) != 0 {
					t.Errorf("the entries are %v and %v", b.got(d).Ents, b.got(e).Ents)
				}
			}
		}
	}
}

// P18.2: a node with a thousand names, in some directories: it goes with the last of them, and each one that went makes room
// for another one.
func TestThousand(t *testing.T) {
	b := opened(t)
	dirs := []int{1, b.dir(1, "d"), b.dir(1, "e")}
	b.is(mkfile(root, 1, dirs[1], "n0001", 0o600, "data"), answer{no: 4})
	for k := 2; k <= 1000; k++ {
		b.ok(hard(root, k, 4, dirs[k%3], fmt.Sprintf("n%04d", k)))
	}
	b.fails(hard(root, 2000, 4, 1, "more"), tooMany)
	b.ok(unlink(root, 2001, dirs[500%3], "n0500"))
	b.ok(hard(root, 2002, 4, dirs[500%3], "n0500"))
	b.fails(hard(root, 2003, 4, 1, "more"), tooMany)
	r := rand.New(rand.NewPCG(18, 7))
	left := 1000
	for _, i := range r.Perm(1000) {
		k := i + 1
		b.ok(unlink(root, 3000+k, dirs[k%3], fmt.Sprintf("n%04d", k)))
		left--
		if left == 0 {
			break
		}
		if n := b.got(4); n.Links != left || n.Ctime != 3000+k || n.Mtime != 1 || n.Data != "data" {
			t.Fatalf("with %d names left: %+v", left, n)
		}
	}
	b.gone(4)
	if b.w.Len() != 3 || len(b.got(1).Ents) != 2 {
		t.Errorf("there are %d nodes", b.w.Len())
	}
}

// P18.2: the number of names is the node's own, whatever entries there are.
func TestLinks(t *testing.T) {
	b := opened(t)
	f := b.file(1, "f", "data")
	for k := range 5 {
		b.name(1, fmt.Sprint("o", k), f)
	}
	b.ok(unlink(root, 7, 1, "o3"))
	b.gone(f)
	for _, s := range []string{"f", "o0", "o1", "o2", "o4"} {
		for _, q := range all(root, 7, 1, s) {
			b.fails(q, none)
		}
	}
	if got := b.got(1).Ents; len(got) != 5 {
		t.Errorf("the entries are %v", got)
	}
	g := b.file(1, "g", "data")
	b.linked(g, 9)
	b.ok(unlink(root, 7, 1, "g"))
	if n := b.got(g); n.Links != 8 {
		t.Errorf("the node is %+v", n)
	}
	e := b.dir(1, "e")
	b.linked(e, 0)
	b.ok(rmdir(root, 7, 1, "e"))
	b.gone(e)
}

// P18.2: names on each of eight mounts, in the root of each, below it, and in the directory that it covers.
func TestMounts(t *testing.T) {
	b := opened(t)
	at := 1
	for k := range maxMounts - 1 {
		d := b.dir(at, "d")
		hidden, hiddenDir := b.file(d, "f", "hidden"), b.dir(d, "e")
		over := b.cover(d)
		x := b.dir(over, "x")
		shown, shownDir, low := b.file(over, "f", "shown"), b.dir(over, "e"), b.file(x, "f", "low")
		used := []api.Space{b.w.Use(k + 1), b.w.Use(k + 2)}
		b.ok(unlink(users[3], 7, d, "f"))
		b.gone(hidden)
		b.ok(rmdir(users[3], 7, d, "e"))
		b.gone(hiddenDir)
		if got := b.w.Use(k + 1); got.Nodes != used[0].Nodes-2 || got.Blocks != used[0].Blocks-2 || b.w.Use(k+2) != used[1] {
			t.Errorf("on mount %d %v is used, and %v on the next one", k+1, got, b.w.Use(k+2))
		}
		b.fails(unlink(users[3], 8, over, "f"), access)
		b.ok(unlink(root, 8, over, "f"))
		b.gone(shown)
		b.ok(rmdir(root, 8, over, "e"))
		b.gone(shownDir)
		b.ok(unlink(users[3], 8, x, "f"))
		b.gone(low)
		if got := b.w.Use(k + 2); got.Nodes != used[1].Nodes-3 || got.Blocks != used[1].Blocks-3 {
			t.Errorf("on mount %d %v is used, and before %v", k+2, got, used[1])
		}
		b.fails(rmdir(root, 9, at, "d"), busy)
		at = over
	}
	if b.w.Devs() != maxMounts {
		t.Errorf("there are %d mounts", b.w.Devs())
	}
}

// P18.2: the number of a node that went isn't given again, nor do calls that fail take one.
func TestNumbers(t *testing.T) {
	b := opened(t)
	for k := range 50 {
		no := 2 + 3*k
		b.is(mkfile(root, 7, 1, "f", 0, ""), answer{no: no})
		b.is(mkdir(root, 7, 1, "d", 0), answer{no: no + 1})
		b.is(symlink(root, 7, no+1, "l", "x"), answer{no: no + 2})
		b.fails(rmdir(root, 8, 1, "d"), notEmpty)
		b.fails(unlink(root, 8, 1, "d"), isDir)
		b.ok(unlink(root, 8, no+1, "l"))
		b.ok(rmdir(root, 8, 1, "d"))
		b.ok(unlink(root, 8, 1, "f"))
		for _, gone := range []int{no, no + 1, no + 2} {
			b.gone(gone)
		}
	}
}

// P18.2: nodes with great numbers are like others: numbers rise beyond MaxNodes where nodes go and others come.
func TestGreatNumbers(t *testing.T) {
	b := opened(t)
	for k := range 8*65536 + 100 {
		no, e := bring.File(b.w, root, k, 1, "f", 0, "")
		if no != k+2 || e != accepted {
			t.Fatalf("File = %d, %d", no, e)
		}
		if e := drop.Unlink(b.w, root, k, 1, "f"); e != accepted || b.w.Len() != 1 {
			t.Fatalf("Unlink of node %d = %d", no, e)
		}
	}
	b.p.last = 8*65536 + 101
	b.p.touch(1, 8*65536+99, nil)
	b.same()
	d := b.p.last + 1
	b.is(mkdir(root, 7, 1, "d", 0o777), answer{no: d})
	b.is(mkfile(users[3], 7, d, "f", 0, "data"), answer{no: d + 1})
	b.ok(hard(users[3], 7, d+1, d, "g"))
	b.is(mkdir(root, 7, d, "m", 0o777), answer{no: d + 2})
	b.cover(d + 2)
	b.fails(rmdir(root, 8, d, "m"), busy)
	b.ok(unlink(users[3], 8, d, "f"))
	b.ok(leave(users[3], d, "g"))
	b.ok(unlink(users[3], 8, d, "g"))
	b.gone(d + 1)
	b.is(mkdir(root, 7, d, "e", 0o777), answer{no: d + 4})
	b.ok(rmdir(users[3], 8, d, "e"))
	b.gone(d + 4)
}

// LANGUAGE 7, P18.1: the nodes that Leave answered are not the world's: neither a change to them changes the world or another
// answer, nor does a later call change what was answered.
func TestLeaveApart(t *testing.T) {
	for _, many := range []int{1, 2, 3, 4, 5, 8, 9, 100} {
		b := opened(t)
		d := b.dir(1, "d")
		e := b.dir(d, "e")
		for k := range many {
			b.file(d, fmt.Sprint("g", k), "")
			b.file(e, fmt.Sprint("h", k), "")
		}
		dir, node, _ := drop.Leave(b.w, root, d, "e")
		dir2, node2, is := drop.Leave(b.w, root, d, "e")
		wantDir, want := b.p.nodes[d], b.p.nodes[e]
		if is != accepted || !alike(dir, wantDir) || !alike(node, want) {
			t.Fatalf("Leave = %+v, %+v, %d", dir, node, is)
		}
		for _, l := range [][]api.Ent{dir.Ents[:cap(dir.Ents)], node.Ents[:cap(node.Ents)]} {
			for i := range l {
				l[i] = api.Ent{Name: "other", No: 98}
			}
		}
		dir.Mode, node.Mode, node.Links = 0, 0, 77
		b.same()
		if !alike(dir2, wantDir) || !alike(node2, want) {
			t.Errorf("a change to one answer changed another one: %+v, %+v", dir2, node2)
		}
		b.ok(unlink(root, 8, d, "g0"))
		b.ok(unlink(root, 9, e, "h0"))
		b.is(touch(e, 10), answer{})
		b.ok(rmdir(root, 11, d, "e"))
		if !alike(dir2, wantDir) || !alike(node2, want) {
			t.Errorf("a later call changed an answer: %+v, %+v", dir2, node2)
		}
		if dir.Ents[0].No != 98 || node.Ents[0].No != 98 {
			t.Errorf("a later call changed an answer: %+v, %+v", dir, node)
		}
	}
	// A directory in itself: the two lists that are answered are two, although they are of one node.
	b := opened(t)
	d := b.dir(1, "d")
	b.name(d, "d", d)
	dir, node, _ := drop.Leave(b.w, root, d, "d")
	dir.Ents[0].No = 98
	if node.Ents[0].No != d {
		t.Error("the lists of one answer share memory")
	}
	b.same()
}

// LANGUAGE 7, P18.1, P18.2: a list that Touch, or Less, was given is not the world's: neither do the calls change it, nor does
// a change to it change the world.
func TestListsApart(t *testing.T) {
	for _, many := range []int{1, 2, 3, 7, 8, 100} {
		b := opened(t)
		d, f, e := b.dir(1, "d"), b.file(1, "f", ""), b.dir(1, "e")
		b.linked(f, 1000)
		var l []api.Ent
		for k := range many + 3 {
			l = append(l, api.Ent{Name: fmt.Sprintf("m%04d", k), No: f})
		}
		whole := slices.Clone(l)
		bring.Touch(b.w, d, 7, l[:many])
		b.p.touch(d, 7, whole[:many])
		b.same()
		n := b.got(e)
		n.Ents = l
		b.linked(e, 3)
		b.is(less(7, n), answer{})
		for k := many - 1; k >= 0; k -= 2 {
			b.ok(unlink(root, 8, d, whole[k].Name))
			if !slices.Equal(l, whole) {
				t.Fatalf("a call changed a list that it was given: %v", l)
			}
		}
		n = b.got(e)
		n.Ents = l
		b.is(less(8, n), answer{})
		for i := range l {
			l[i] = api.Ent{Name: "other", No: 99}
		}
		b.same()
	}
	// What the table answered before stays as it was answered.
	b := opened(t)
	f := b.file(1, "f", "data")
	b.file(1, "g", "")
	b.linked(f, 2)
	top, n := b.got(1), b.got(f)
	wantTop, want := b.p.nodes[1], b.p.nodes[f]
	b.ok(unlink(root, 7, 1, "f"))
	b.ok(unlink(root, 7, 1, "g"))
	if !alike(top, wantTop) || !alike(n, want) {
		t.Errorf("a later call changed what was answered: %+v, %+v", top, n)
	}
}

// scene is a world, and a call of which some things are wrong, each by itself or all at once.
type scene struct {
	b *both
	w *mount.World
	q call
}

// staged is a scene of a function: on a mount with the root 3 is a directory 4, in which n is what the function takes away.
func staged(t *testing.T, what string, wrongs []string) scene {
	t.Helper()
	on := func(s string) bool { return slices.Contains(wrongs, s) }
	b := opened(t)
	over := b.cover(b.dir(1, "m"))
	d := b.put(over, "d", api.Node{Kind: dirKind, Mode: 0o777, UID: 5, GID: 6})
	b.link(d, "l", "f")
	kind := fileKind
	if what == "Rmdir" && !on("another kind") || what == "Unlink" && on("directory") || on("busy") {
		kind = dirKind
	}
	n := api.Node{Kind: kind, Mode: 0o750, UID: 8, GID: 9}
	if on("entries") {
		n.Ents = []api.Ent{{Name: "a", No: d}}
	}
	no := b.put(d, "n", n)
	q := call{what: what, c: users[3], now: 50, dir: d, name: "n"}
	if on("busy") {
		b.cover(no)
	}
	if on("gone") {
		b.kill(no)
	}
	if on("not there") {
		q.name = "nn"
	}
	if on("name") {
		q.name = q.name + "/"
	}
	if on("long name") {
		q.name += strings.Repeat("n", maxName)
	}
	mode := 0o777
	if on("closed") {
		mode = 0o775
	}
	if on("sticky") {
		mode |= sticky
	}
	b.open(d, mode, 5, 6)
	if on("no directory") {
		n := b.p.nodes[d]
		n.Kind = linkKind
		b.p.nodes[d] = n
		b.w.Set(n)
	}
	if on("nothing") {
		q.dir = 98
	}
	s := scene{b, b.w, q}
	if on("world") {
		s.w = nil
	}
	return s
}

// P18.1, P18.2, R2: of all things that are wrong the first in the chapter's order is told, for every choice of them.
func TestOrder(t *testing.T) {
	type fault struct {
		what string
		e    api.Errno
	}
	ofLeave := []fault{
		{"world", wrong}, {"nothing", none}, {"no directory", notDir}, {"name", wrong}, {"long name", tooLong}, {"closed", access},
		{"not there", none}, {"gone", none}, {"busy", busy}, {"sticky", refused},
	}
	for what, l := range map[string][]fault{
		"Leave":  ofLeave,
		"Unlink": slices.Concat(ofLeave, []fault{{"directory", isDir}}),
		"Rmdir":  slices.Concat(ofLeave, []fault{{"another kind", notDir}, {"entries", notEmpty}}),
	} {
		for choice := range 1 << len(l) {
			var wrongs []string
			want := accepted
			for i, x := range l {
				if choice>>i&1 == 1 {
					if want == accepted {
						want = x.e
					}
					wrongs = append(wrongs, x.what)
				}
			}
			s := staged(t, what, wrongs)
			before := told(s.b.w)
			got := s.q.do(s.w)
			if want == accepted {
				if got.e != accepted {
					t.Errorf("%v = %v", s.q, got)
				}
				continue
			}
			if !got.equal(answer{e: want}) {
				t.Errorf("with the faults %q %v = %v, want error %d", wrongs, s.q, got, want)
			}
			if told(s.b.w) != before {
				t.Errorf("with the faults %q %v = %v changed the world", wrongs, s.q, got)
			}
		}
	}
}

// P18.1, P18.2: what is no fault of a function's isn't one: neither a directory nor its entries for Leave, no entries of what is
// no directory for Unlink, and none of them all for Less, which has a node go, or have a name less, wherever it is.
func TestNoFault(t *testing.T) {
	for what, wrongs := range map[string][]string{
		"Leave":  {"directory", "entries", "another kind"},
		"Unlink": {"entries", "another kind"},
		"Rmdir":  {"directory"},
		"Less":   {"nothing", "name", "long name", "closed", "not there", "busy", "sticky", "entries"},
	} {
		for choice := range 1 << len(wrongs) {
			var l []string
			for i, s := range wrongs {
				if choice>>i&1 == 1 {
					l = append(l, s)
				}
			}
			s := staged(t, what, l)
			if what == "Less" {
				s.q.node = s.b.got(6)
			}
			if a := s.b.drawn(s.q); a.e != accepted {
				t.Errorf("with %q %v = %v", l, s.q, a)
			}
			if what != "Leave" {
				s.b.gone(6)
			}
		}
	}
}

// P18.2: directories below each other go from the lowest one on, and names of a wide directory in any order.
func TestDeepAndWide(t *testing.T) {
	b := opened(t)
	at := 1
	var way []int
	for k := range 400 {
		way = append(way, at)
		no := b.p.last + 1
		b.is(mkdir(root, k, at, "d", 0o700), answer{no: no})
		at = no
	}
	for _, no := range way[:len(way)-1] {
		b.is(rmdir(root, 500, no, "d"), answer{e: notEmpty})
	}
	for _, no := range slices.Backward(way) {
		b.ok(rmdir(root, 501, no, "d"))
	}
	if b.w.Len() != 1 {
		t.Errorf("there are %d nodes", b.w.Len())
	}
	for i := range 1500 {
		b.is(mkfile(root, 7, 1, fmt.Sprintf("%04d", i), 0, ""), answer{no: b.p.last + 1})
	}
	r := rand.New(rand.NewPCG(18, 9))
	for k, i := range r.Perm(1500) {
		b.ok(unlink(root, k, 1, fmt.Sprintf("%04d", i)))
	}
	if b.w.Len() != 1 || len(b.got(1).Ents) != 0 {
		t.Errorf("there are %d nodes", b.w.Len())
	}
}

// pick draws one of several.
func pick[T any](r *rand.Rand, l ...T) T { return l[r.IntN(len(l))] }

// names are those that drawn worlds have.
var names = []string{"a", "b", "c", "d", "ab", "b.~1~", "é", "\xff"}

// bad are texts that are no names.
var bad = []string{"", ".", "..", "a/b", "a\x00", strings.Repeat("a", 256)}

// someone draws a user.
func someone(r *rand.Rand) api.Cred { return api.Cred{UID: r.IntN(3), GID: r.IntN(3)} }

// data draws a node's bytes.
func data(r *rand.Rand) string {
	s := make([]byte, r.IntN(pick(r, 2, 20, 2000)))
	for i := range s {
		s[i] = byte(r.IntN(256))
	}
	return string(s)
}

// dressed draws what a node has beside its kind, its number, its mount and its directory.
func dressed(r *rand.Rand, n api.Node) api.Node {
	n.Mode, n.UID, n.GID = pick(r, 0o777, 0o333, 0o1777, r.IntN(1024), r.IntN(1024)), r.IntN(3), r.IntN(3)
	n.Mtime, n.Ctime, n.Links = r.IntN(1000), r.IntN(1000), pick(r, 0, 1, 1, 2, 3, 1000)
	return n
}

// some draws a number: of a node, and at times of one that went, or that isn't there yet.
func some(b *both, r *rand.Rand) int {
	switch r.IntN(16) {
	case 0:
		return r.IntN(b.p.last+4) - 1
	case 1:
		return pick(r, nowhere...)
	}
	return pick(r, slices.Sorted(maps.Keys(b.p.nodes))...)
}

// someDir draws a number like some, mostly of a directory, and rather of one with entries.
func someDir(b *both, r *rand.Rand) int {
	for k := range 6 {
		if no := some(b, r); b.p.nodes[no].Kind == dirKind && (k > 3 || len(b.p.nodes[no].Ents) > 0) {
			return no
		}
	}
	return some(b, r)
}

// step draws a change of a world other than by the calls that are drawn.
func step(b *both, r *rand.Rand) {
	b.Helper()
	no := some(b, r)
	n, ok := b.p.nodes[no]
	switch i := r.IntN(24); {
	case !ok:
	case i < 3 && n.Kind == dirKind:
		if s := b.p.use(n.Dev); s.Nodes < s.MostNodes {
			b.put(no, pick(r, names...), dressed(r, api.Node{Kind: pick(r, 0, 4, -1), Data: "data"}))
		}
	case i < 4 && n.Kind == dirKind:
		b.drawn(touch(no, r.IntN(1000), slices.DeleteFunc(slices.Clone(n.Ents), func(api.Ent) bool { return r.IntN(2) == 0 })...))
	case i < 12:
		b.set(dressed(r, n))
	case i < 13 && !b.p.isRoot(no):
		b.kill(no)
	case i < 18 && n.Kind == dirKind:
		b.cover1(no, r)
	case i < 20 && n.Kind == dirKind:
		// A name for any node, also for a directory that has one, or that is above, and for a mount's root.
		b.name(no, pick(r, names...), pick(r, slices.Sorted(maps.Keys(b.p.nodes))...))
	}
}

// cover1 has a mount cover a directory, if one can.
func (b *both) cover1(no int, r *rand.Rand) {
	b.Helper()
	if !b.p.isRoot(no) && b.p.over[no] == 0 && len(b.p.over) < maxMounts-1 {
		b.covered(no, pick(r, 1, 4, 10, 40), pick(r, 1, 4, 10, 40))
	}
}

// draw draws a call, of package drop or of package bring.
func draw(b *both, r *rand.Rand) call {
	q := call{what: pick(r, "Leave", "Less", "Unlink", "Unlink", "Rmdir", "Rmdir", "Dir", "Dir", "File", "Sym", "Hard", "Hard", "Touch")}
	q.c, q.now, q.dir, q.no = someone(r), r.IntN(1000), someDir(b, r), some(b, r)
	q.name, q.mode = pick(r, names...), pick(r, 0o777, 0o1777, r.IntN(1024))
	l := b.p.nodes[q.dir].Ents
	if len(l) > 0 && slices.Contains([]string{"Leave", "Unlink", "Rmdir"}, q.what) {
		q.name = pick(r, l...).Name
	}
	if r.IntN(8) == 0 {
		q.name += pick(r, names...)
	}
	if r.IntN(20) == 0 {
		q.name = pick(r, bad...)
	}
	switch q.what {
	case "Less":
		q.node = b.p.nodes[q.no]
		q.node.No = q.no
		if r.IntN(3) == 0 {
			q.node = dressed(r, api.Node{No: q.no, Data: data(r), Kind: r.IntN(4), Dev: r.IntN(4)})
		}
	case "Touch":
		q.list = l
		if len(q.list) > 0 {
			q.list = q.list[r.IntN(len(q.list)):]
		}
	case "File":
		q.data = data(r)
	case "Sym":
		q.data = pick(r, "a", "/a", "../b", "é", "\xff", "a/b/c")
	}
	return q
}

// world draws a world.
func world(t *testing.T, r *rand.Rand) *both {
	t.Helper()
	b := limited(t, pick(r, 6, 20, 100), pick(r, 6, 20, 100))
	for range 5 + r.IntN(40) {
		q := draw(b, r)
		if q.what != "Less" && q.what != "Touch" {
			q.c = pick(r, root, q.c)
			b.drawn(q)
		}
		step(b, r)
	}
	return b
}

// crowded draws a world with some hundred nodes more, of each kind, in directories of all users.
func crowded(t *testing.T, r *rand.Rand) *both {
	t.Helper()
	b := opened(t)
	for range 20 + r.IntN(200) {
		at := someDir(b, r)
		if b.p.nodes[at].Kind != dirKind {
			at = 1
		}
		b.put(at, pick(r, names...), dressed(r, api.Node{Kind: pick(r, dirKind, dirKind, fileKind, linkKind, 4), Data: "data"}))
	}
	return b
}

// P18.1, P18.2: long sequences of drawn worlds, changes and calls, held against a plain world.
func TestDrawn(t *testing.T) {
	r := rand.New(rand.NewPCG(18, 1))
	found := map[string]int{}
	mounted := map[string]int{}
	for k := range 400 {
		b := world(t, r)
		if k%10 == 0 {
			b = crowded(t, r)
		}
		for range 250 {
			q := draw(b, r)
			before := len(b.p.nodes)
			dev := b.p.nodes[q.dir].Dev
			a := b.drawn(q)
			sort := fmt.Sprint(q.what, " ", a.e)
			if len(b.p.nodes) < before {
				sort += " gone"
			}
			found[sort]++
			if a.e == accepted && dev > 1 {
				mounted[q.what]++
			}
			if r.IntN(3) == 0 {
				step(b, r)
			}
		}
	}
	sorts := []string{"Less 0", "Less 0 gone", "Unlink 0 gone", "Rmdir 0 gone"}
	for what, l := range map[string][]api.Errno{
		"Leave":  {accepted, none, notDir, wrong, tooLong, access, busy, refused},
		"Unlink": {accepted, none, notDir, wrong, tooLong, access, busy, refused, isDir},
		"Rmdir":  {accepted, none, notDir, wrong, tooLong, access, busy, refused, notEmpty},
		"Dir":    {accepted, none, notDir, wrong, tooLong, access, exists, noNodes, noSpace},
		"Hard":   {accepted, none, notDir, wrong, tooLong, access, refused, exists, cross, tooMany},
	} {
		for _, e := range l {
			sorts = append(sorts, fmt.Sprint(what, " ", e))
		}
	}
	for _, s := range sorts {
		if found[s] < 30 {
			t.Errorf("only %d answers are of the sort %q", found[s], s)
		}
	}
	for _, what := range []string{"Leave", "Unlink", "Rmdir"} {
		if mounted[what] < 100 {
			t.Errorf("only %d calls of %s succeeded on another mount", mounted[what], what)
		}
	}
}

// P18.1, P18.2: worlds that came about by calls alone, and mounts, are as they ought to be: entries rise, each node has as many
// names as its Links tell, each directory has its path, and the space in use is that of the nodes. Once all names that may go
// went, the roots, what they cover, and what is above that are left.
func TestGrown(t *testing.T) {
	r := rand.New(rand.NewPCG(18, 2))
	for range 80 {
		b := opened(t)
		for range 150 {
			q := draw(b, r)
			q.c = pick(r, root, root, q.c)
			if q.what == "Touch" || q.what == "Less" {
				continue
			}
			b.drawn(q)
			if d := someDir(b, r); r.IntN(30) == 0 && b.p.nodes[d].Kind == dirKind {
				b.cover1(d, r)
			}
		}
		b.whole()
		b.emptied()
		b.whole()
	}
}

// emptied takes all names away that may go.
func (b *both) emptied() {
	b.Helper()
	for again := true; again; {
		again = false
		for _, n := range slices.SortedFunc(maps.Values(b.p.nodes), func(x, y api.Node) int { return y.No - x.No }) {
			for _, x := range n.Ents {
				q := unlink(root, 7, n.No, x.Name)
				if b.p.nodes[x.No].Kind == dirKind {
					q = rmdir(root, 7, n.No, x.Name)
				}
				again = b.drawn(q).e == accepted || again
			}
		}
	}
	kept := map[int]struct{}{1: {}}
	for at, over := range b.p.over {
		kept[over] = struct{}{}
		for no := at; !b.p.isRoot(no); no = b.p.nodes[no].Up {
			kept[no] = struct{}{}
		}
	}
	for n := range b.w.All() {
		if _, ok := kept[n.No]; !ok || n.Kind != dirKind {
			b.Fatalf("node %+v is left", n)
		}
	}
	if b.w.Len() != len(kept) {
		b.Fatalf("%d nodes are left, want %d", b.w.Len(), len(kept))
	}
}

// whole holds what follows from the promises for a world that came about by calls alone.
func (b *both) whole() {
	b.Helper()
	count := map[int]int{}
	for n := range b.w.All() {
		if !ents.Check(n.Ents) {
			b.Fatalf("node %d has the entries %v", n.No, n.Ents)
		}
		if n.Kind != dirKind {
			continue
		}
		path, ok := b.w.Where(n.No)
		for _, x := range n.Ents {
			count[x.No]++
			m := b.got(x.No)
			if m.Dev != n.Dev {
				b.Fatalf("node %d is on mount %d, and its name %q on %d", x.No, m.Dev, x.Name, n.Dev)
			}
			below, is := b.w.Where(x.No)
			if want := strings.TrimSuffix(path, "/") + "/" + x.Name; m.Kind == dirKind && (below != want || !is || !ok) {
				b.Fatalf("Where(%d) = %q, %v, want %q", x.No, below, is, want)
			}
		}
	}
	for n := range b.w.All() {
		want := n.Links
		if b.p.isRoot(n.No) {
			want = 0
		}
		if count[n.No] != want {
			b.Fatalf("node %+v has %d names", n, count[n.No])
		}
	}
}

// P18.2, P17.2: what comes and goes again leaves a world as it was, but for the directory's times and the numbers.
func TestBack(t *testing.T) {
	r := rand.New(rand.NewPCG(18, 4))
	done := 0
	for range 60 {
		b := world(t, r)
		for range 60 {
			q := draw(b, r)
			d, n := b.p.nodes[q.dir], b.p.nodes[q.no]
			if !slices.Contains([]string{"Dir", "File", "Sym", "Hard"}, q.what) || b.drawn(q).e != accepted {
				continue
			}
			away := unlink(q.c, q.now, q.dir, q.name)
			if q.what == "Dir" {
				away.what = "Rmdir"
			}
			// Who makes a node owns it, and so may take it away again; with a name more it is still somebody else's. One that had
			// no name goes with the new one.
			if q.what == "Hard" && (d.Mode&sticky != 0 || n.Links < 1 || b.p.over[q.no] != 0) {
				continue
			}
			b.is(away, answer{})
			done++
			d.Mtime, d.Ctime = q.now, q.now
			n.Ctime = q.now
			if got := b.got(q.dir); !alike(got, d) {
				t.Errorf("behind %v and %v the directory is %+v, want %+v", q, away, got, d)
			}
			if got, ok := b.w.Get(q.no); q.what == "Hard" && (!ok || !alike(got, n)) {
				t.Errorf("behind %v and %v the node is %+v, want %+v", q, away, got, n)
			}
		}
	}
	if done < 300 {
		t.Errorf("only %d names came and went", done)
	}
}

// R7: a call that answers an error, and Leave, leaves a world as it was: also what its mounts have in use, where its directories
// are, and which number comes next.
func TestUnchanged(t *testing.T) {
	r := rand.New(rand.NewPCG(18, 3))
	failed := 0
	for range 40 {
		b := world(t, r)
		for range 80 {
			q := draw(b, r)
			before, planned := told(b.w), b.p.last
			if a := b.drawn(q); a.e == accepted && q.what != "Leave" {
				continue
			}
			failed++
			if after := told(b.w); after != before {
				t.Fatalf("%v changed the world from\n%s\nto\n%s", q, before, after)
			}
			if s := b.p.use(1); s.Nodes < s.MostNodes && r.IntN(4) == 0 {
				if no := b.make(api.Node{Dev: 1, Kind: linkKind}); no != planned+1 {
					t.Fatalf("behind %v the next number is %d, want %d", q, no, planned+1)
				}
			}
		}
	}
	if failed < 500 {
		t.Errorf("only %d calls failed", failed)
	}
}

// R5: the same calls on worlds that are the same answer the same, also beside each other and beside other worlds.
func TestAgain(t *testing.T) {
	for seed := range uint64(20) {
		first := rand.New(rand.NewPCG(18, seed))
		a := world(t, first)
		other := world(t, rand.New(rand.NewPCG(19, seed)))
		second := rand.New(rand.NewPCG(18, seed))
		b := world(t, second)
		if told(a.w) != told(b.w) {
			t.Fatal("the same calls made another world")
		}
		for range 100 {
			q, again := draw(a, first), draw(b, second)
			if x, y := a.drawn(q), b.drawn(again); !x.equal(y) {
				t.Fatalf("%v = %v, and then %v", q, x, y)
			}
			other.drawn(draw(other, first))
			draw(other, second)
			if told(a.w) != told(b.w) {
				t.Fatalf("%v made another world", q)
			}
			// So that both draw alike from here on, whatever the other world drew.
			next := first.Uint64()
			first, second = rand.New(rand.NewPCG(next, 1)), rand.New(rand.NewPCG(next, 1))
		}
	}
}

// R1: each call ends without a panic, also where entries and fields are none by the document; beside an error there is nothing.
func TestAnyhow(t *testing.T) {
	for _, l := range [][]api.Ent{
		{{Name: "b", No: 2}, {Name: "a", No: 1}}, {{Name: "a", No: 1}, {Name: "a", No: 2}}, {{Name: "", No: 0}, {Name: "..", No: 2}, {Name: "a/b", No: 2}},
		{{Name: "c", No: 3}, {Name: "b", No: 2}, {Name: "a", No: 1}}, {{Name: "a", No: math.MinInt}, {Name: "b", No: math.MaxInt}, {Name: "c", No: 0}},
		{{Name: "a", No: 2}, {Name: "b", No: 3}, {Name: "c", No: 4}},
	} {
		for _, v := range []int{math.MinInt, -1, 0, 1, 2, 3, 9, 1001, math.MaxInt} {
			for _, kind := range []int{dirKind, fileKind, v} {
				b := opened(t)
				b.cover(b.dir(1, "d"))
				b.file(1, "f", "")
				for no := 1; no <= 4; no++ {
					n := b.p.nodes[no]
					n.Dev, n.Links, n.Up, n.Mode = v, v, v, v
					if no > 2 {
						n.Kind = kind
					}
					b.w.Set(n)
					bring.Touch(b.w, no, v, l)
				}
				for _, c := range users {
					for _, dir := range []int{1, 2, 3, 4, v} {
						drop.Less(b.w, v, api.Node{No: dir, Links: v, Kind: v, Dev: v})
						for _, s := range append(bad, "a", "b", "c", "d") {
							for _, q := range all(c, v, dir, s) {
								if a := q.do(b.w); a.e != accepted && !a.equal(answer{e: a.e}) {
									t.Errorf("%v = %v", q, a)
								}
							}
						}
					}
				}
			}
		}
	}
}

// P18.1, P18.2: a call doesn't take much longer than the length of its directory, and than that of what it is handed.
func TestTime(t *testing.T) {
	begun := time.Now()
	b := opened(t)
	d := b.dir(1, "d")
	f := b.file(1, "f", "")
	b.linked(f, math.MaxInt)
	var l []api.Ent
	for k := range 300000 {
		l = append(l, api.Ent{Name: fmt.Sprintf("%06d", k), No: f})
	}
	bring.Touch(b.w, d, 7, l)
	for k := range 30 {
		if e := drop.Unlink(b.w, root, 7, d, fmt.Sprintf("%06d", 9999*k)); e != accepted {
			t.Errorf("Unlink = %d", e)
		}
		if e := drop.Rmdir(b.w, root, 7, 1, "d"); e != notEmpty {
			t.Errorf("Rmdir = %d", e)
		}
		for _, q := range all(root, 7, d, strings.Repeat("0", 20<<20)) {
			if got := q.do(b.w); got.e != tooLong {
				t.Errorf("%.100s = error %d", q.what, got.e)
			}
		}
	}
	if n := b.got(d); len(n.Ents) != 300000-30 || !ents.Check(n.Ents) {
		t.Errorf("the directory has %d entries", len(n.Ents))
	}
	if took := time.Since(begun); took > time.Minute {
		t.Errorf("it took %v", took)
	}
}

// P18.1, P18.2, beyond the tests above: a drawn world, with a name and numbers that are handed in.
func FuzzDrop(f *testing.F) {
	for _, s := range append(slices.Clone(bad), "a", "ab", "é", "\xff", "0123456789") {
		f.Add(s, uint64(1), 0, 0, 1, 1, 7, 1)
		f.Add("a", uint64(2), 1, 2, 5, 3, -7, 2)
		f.Add(s, uint64(3), 0, 2, 2, 2, 1<<40, -1)
	}
	f.Fuzz(func(t *testing.T, s string, seed uint64, uid, gid, dir, no, now, links int) {
		r := rand.New(rand.NewPCG(18, seed))
		b := world(t, r)
		for range 3 {
			for _, at := range []int{dir, someDir(b, r), 1} {
				for _, c := range []api.Cred{{UID: uid, GID: gid}, someone(r), root} {
					if s := b.p.use(1); s.Nodes < s.MostNodes {
						b.drawn(mkfile(c, now, at, pick(r, names...), 0o600, ""))
					}
					for _, q := range all(c, now, at, s) {
						b.drawn(q)
						q.name = pick(r, names...)
						b.drawn(q)
					}
				}
			}
			for _, x := range []int{no, some(b, r)} {
				b.drawn(less(now, api.Node{No: x, Links: links, UID: uid, GID: gid, Kind: dir, Dev: no}))
			}
			step(b, r)
		}
	})
}
