package peek_test

import (
	"fmt"
	"maps"
	"math"
	"math/rand/v2"
	"slices"
	"strings"
	"testing"
	"time"

	"ragpicker/api"
	"ragpicker/mount"
	"ragpicker/peek"
	"ragpicker/table"
)

// P16.1: the chapter's example.
func TestExample(t *testing.T) {
	w, e := mount.New(9, 9)
	if e != api.OK {
		t.Fatal(e)
	}
	if l, e := peek.List(w, root, 1); len(l) != 0 || e != api.OK {
		t.Errorf("List of the top = %v, %d", l, e)
	}
	if s, e := peek.Read(w, root, 1); s != "" || e != api.ErrDir {
		t.Errorf("Read of the top = %q, %d", s, e)
	}
}

// P16.1: a nil World is ErrArg, whatever else is wrong.
func TestNilWorld(t *testing.T) {
	for _, c := range append(users, root) {
		for _, no := range append([]int{1, 2, 3}, nowhere...) {
			for _, s := range append(odd, "a") {
				for _, q := range all(c, no, s) {
					if got := q.ask(nil); !got.equal(answer{e: api.ErrArg}) {
						t.Errorf("%v of a nil World = %v, want error 1", q, got)
					}
				}
			}
		}
	}
}

// hut is a world with nodes of all kinds, on three mounts; the comments tell the numbers.
func hut(t *testing.T) *both {
	b := opened(t)
	a := b.dir(1, "a")                                                  // 2: /a
	b.file(a, "f", "in /a\n")                                           // 3: /a/f
	b.link(a, "l", "../a/f")                                            // 4: /a/l
	m := b.dir(a, "m")                                                  // 5: /a/m, covered
	b.file(m, "h", "hidden")                                            // 6: /a/m/h, hidden
	r := b.cover(m)                                                     // 7: the root at /a/m
	b.file(r, "x", "on it")                                             // 8: /a/m/x
	d := b.dir(r, "d")                                                  // 9: /a/m/d, covered
	b.link(d, "h", "hidden, too")                                       // 10: /a/m/d/h, hidden
	s := b.cover(d)                                                     // 11: the root at /a/m/d
	b.link(s, "y", "/")                                                 // 12: /a/m/d/y
	b.put(a, "o", api.Node{Kind: 0, Mode: 0o777, Data: "of no kind"})   // 13: /a/o
	b.put(1, "u", api.Node{Kind: 77, Mode: 0o777, Data: "of another"})  // 14: /u
	e := b.put(1, "e", api.Node{Kind: dirKind, Mode: 0o750, Data: "-"}) // 15: /e, with Data
	b.name(e, "f", 3)
	b.name(e, "m", m)
	b.name(e, "u", 1)
	if len(b.p.nodes) != 15 || b.w.Len() != 15 || e != 15 {
		t.Fatal("a fault of this test")
	}
	return b
}

// P16.1: all that is asked, of all numbers, of the world hut.
func TestHut(t *testing.T) {
	b := hut(t)
	for _, c := range users {
		b.every(c)
	}
	b.same()
}

// P16.1: each function is ErrNone for a number without a node, for whomever and with whatever name.
func TestNoNode(t *testing.T) {
	b := hut(t)
	gone := []int{3, 4, 5, 6, 8, 9, 12, 13, 14, 15}
	for _, no := range gone {
		b.kill(no)
	}
	for _, no := range append(append([]int{16, 17, 18, 32, 100}, gone...), nowhere...) {
		for _, c := range users {
			for _, s := range append(odd, "h", "m", "none") {
				for _, q := range all(c, no, s) {
					b.is(q, answer{e: none})
				}
			}
		}
	}
	// The number behind the last is a node's as soon as one comes, and the numbers of those that went stay without one.
	f := b.file(1, "f", "new")
	b.is(stat(f), answer{stat: api.Stat{No: 16, Dev: 1, Kind: 2, Mode: 0o444, Links: 1, Size: 3}})
	b.is(read(users[3], 16), answer{text: "new"})
	for _, no := range append(gone, 17) {
		b.is(stat(no), answer{e: none})
	}
	b.every(root)
	b.same()
}

// P16.1: a World that New did not create has no node.
func TestEmptyWorld(t *testing.T) {
	for _, w := range []*mount.World{{}, {Table: table.New()}, {Table: &table.Table{}}} {
		for _, no := range append([]int{1, 2}, nowhere...) {
			for _, q := range all(root, no, "a") {
				if got := q.ask(w); !got.equal(answer{e: api.ErrNone}) {
					t.Errorf("%v of an empty World = %v, want error 5", q, got)
				}
			}
		}
	}
}

// P16.1: each field of Stat, with values that differ from each other, for each kind, also on another mount.
func TestStat(t *testing.T) {
	b := opened(t)
	b.cover(b.dir(1, "m"))
	for _, kind := range append([]int{dirKind, fileKind, linkKind}, others...) {
		n := api.Node{No: 999, Dev: 2, Kind: kind, Mode: 0o1753, UID: 15, GID: 16, Mtime: 17, Ctime: 18, Links: 19, Up: 20, Data: "twenty-one letters ..", Ents: []api.Ent{{Name: "a", No: 22}}}
		no := b.make(n)
		b.is(stat(no), answer{stat: api.Stat{No: no, Dev: 2, Kind: kind, Mode: 0o1753, UID: 15, GID: 16, Links: 19, Size: 21, Mtime: 17, Ctime: 18}})
		n.Dev = 1
		no = b.make(n)
		b.is(stat(no), answer{stat: api.Stat{No: no, Dev: 1, Kind: kind, Mode: 0o1753, UID: 15, GID: 16, Links: 19, Size: 21, Mtime: 17, Ctime: 18}})
	}
	b.same()
}

// P16.1: each field of Stat alone, with values at the edges of what a field may have, and beyond them.
func TestStatFields(t *testing.T) {
	values := []int{0, 1, 2, 3, 9, 512, 1023, 1024, 65536, 1<<31 - 1, 1 << 31, 1<<32 + 1, 253402300799, -1, -9, math.MinInt, math.MaxInt}
	for _, kind := range []int{dirKind, fileKind, linkKind, 0} {
		b := opened(t)
		no := b.make(api.Node{Dev: 1, Kind: kind})
		b.is(stat(no), answer{stat: api.Stat{No: no, Dev: 1, Kind: kind}})
		for _, v := range values {
			for _, x := range []struct {
				n    api.Node
				want api.Stat
			}{
				{api.Node{No: no, Dev: v}, api.Stat{No: no, Dev: v}},
				{api.Node{No: no, Kind: v}, api.Stat{No: no, Kind: v}},
				{api.Node{No: no, Mode: v}, api.Stat{No: no, Mode: v}},
				{api.Node{No: no, UID: v}, api.Stat{No: no, UID: v}},
				{api.Node{No: no, GID: v}, api.Stat{No: no, GID: v}},
				{api.Node{No: no, Links: v}, api.Stat{No: no, Links: v}},
				{api.Node{No: no, Mtime: v}, api.Stat{No: no, Mtime: v}},
				{api.Node{No: no, Ctime: v}, api.Stat{No: no, Ctime: v}},
				{api.Node{No: no, Up: v}, api.Stat{No: no}},
			} {
				b.set(x.n)
				b.is(stat(no), answer{stat: x.want})
			}
		}
	}
}

// datas are texts of many lengths and of all bytes, most of which are no texts of anything.
func datas() []string {
	var bytes strings.Builder
	for k := range 256 {
		bytes.WriteByte(byte(k))
	}
	l := []string{
		"", "a", "\x00", "\x00\x00", "a\x00", "\x00a", "a\x00b", "\n", "a\n", "\r\n", " ", " a ", "\t", "/", ".", "..", "/a/b", "a/", "é", "日本", "e\u0301", "\ufeffa",
		"\x7f", "\x80", "\xff", "\xc3", "\xc3\xa9\xff", "\xed\xa0\x80", "\xf4\x90\x80\x80", "%41", "\\n", "\"a\"", bytes.String(),
	}
	for _, n := range []int{2, 3, 255, 256, 511, 512, 513, 1024, 4095, 4096, 4097, 65535, 65536, 1<<20 - 1, 1 << 20, 1<<20 + 1, 3 << 20} {
		l = append(l, strings.Repeat("x", n), strings.Repeat(bytes.String(), n/256+1)[:n], strings.Repeat("\x00", n), strings.Repeat("é", n/2))
	}
	return l
}

// P16.1: Size is the length in bytes of a node's Data, of each kind, whatever the bytes are; Read and Target are the bytes.
func TestData(t *testing.T) {
	b := opened(t)
	d, f, l, o := b.dir(1, "d"), b.file(1, "f", "first"), b.link(1, "l", "first"), b.put(1, "o", api.Node{Kind: 4, Mode: 0o777})
	for _, data := range datas() {
		for _, no := range []int{d, f, l, o} {
			b.fill(no, data)
			n := b.p.nodes[no]
			b.is(stat(no), answer{stat: api.Stat{No: no, Dev: 1, Kind: n.Kind, Mode: n.Mode, Links: 1, Size: len(data)}})
		}
		for _, c := range users {
			b.is(read(c, d), answer{e: isDir})
			b.is(read(c, f), answer{text: data})
			b.is(read(c, l), answer{e: wrong})
			b.is(read(c, o), answer{text: data})
		}
		b.is(target(d), answer{e: isDir})
		b.is(target(f), answer{e: wrong})
		b.is(target(l), answer{text: data})
		b.is(target(o), answer{text: data})
	}
	b.same()
}

// P16.1: Stat tells the top, the root of a mount, and a covered directory itself, by their own numbers.
func TestStatMounts(t *testing.T) {
	b := opened(t)
	b.is(stat(1), answer{stat: api.Stat{No: 1, Dev: 1, Kind: 1, Mode: 0o755, Links: 1}})
	d := b.put(1, "d", api.Node{Kind: dirKind, Mode: 0o700, UID: 8, GID: 9})
	want := answer{stat: api.Stat{No: 2, Dev: 1, Kind: 1, Mode: 0o700, UID: 8, GID: 9, Links: 1}}
	b.is(stat(d), want)
	over := b.cover(d)
	b.is(stat(d), want)
	b.is(stat(over), answer{stat: api.Stat{No: 3, Dev: 2, Kind: 1, Mode: 0o755, Links: 1}})
	b.is(stat(1), answer{stat: api.Stat{No: 1, Dev: 1, Kind: 1, Mode: 0o755, Links: 1}})
	f := b.file(over, "f", "abc")
	b.is(stat(f), answer{stat: api.Stat{No: 4, Dev: 2, Kind: 2, Mode: 0o444, Links: 1, Size: 3}})
}

// P16.1: Links is the node's own number of names, however many entries there are.
func TestStatLinks(t *testing.T) {
	b := opened(t)
	f := b.file(1, "a", "")
	for k := range 20 {
		b.name(1, fmt.Sprint("b", k), f)
	}
	b.is(stat(f), answer{stat: api.Stat{No: f, Dev: 1, Kind: 2, Mode: 0o444, Links: 1}})
	n := b.p.nodes[f]
	n.Links = 1000
	n.Data = "ab"
	b.set(n)
	b.is(stat(f), answer{stat: api.Stat{No: f, Dev: 1, Kind: 2, Mode: 0o444, Links: 1000, Size: 2}})
}

// P16.1: Stat and Target ask for no permission, so an answer is the same for each mode and owner, but for what it tells.
func TestFree(t *testing.T) {
	b := opened(t)
	no := b.make(api.Node{Dev: 1, Kind: linkKind, Data: "text"})
	for mode := range 1024 {
		for _, uid := range []int{0, 5, -1} {
			n := b.p.nodes[no]
			n.Mode, n.UID, n.GID = mode, uid, uid+1
			b.set(n)
			b.is(stat(no), answer{stat: api.Stat{No: no, Dev: 1, Kind: 3, Mode: mode, UID: uid, GID: uid + 1, Size: 4}})
			b.is(target(no), answer{text: "text"})
		}
	}
}

// P16.1: List of directories without entries, with one and with many, each with its own number.
func TestList(t *testing.T) {
	b := opened(t)
	d := b.dir(1, "d")
	b.is(list(root, d), answer{})
	b.is(list(root, 1), answer{list: []api.Ent{{Name: "d", No: 2}}})
	f := b.file(d, "f", "")
	b.is(list(root, d), answer{list: []api.Ent{{Name: "f", No: 3}}})
	l := b.link(d, "a", "f")
	b.is(list(root, d), answer{list: []api.Ent{{Name: "a", No: 4}, {Name: "f", No: 3}}})
	b.name(d, "z", l)
	b.name(d, "b", f)
	b.name(d, "c", 1)
	b.name(d, "d", d)
	b.name(d, "e", 9999)
	want := []api.Ent{{Name: "a", No: 4}, {Name: "b", No: 3}, {Name: "c", No: 1}, {Name: "d", No: 2}, {Name: "e", No: 9999}, {Name: "f", No: 3}, {Name: "z", No: 4}}
	b.is(list(root, d), answer{list: want})
	b.kill(f)
	b.is(list(root, d), answer{list: want})
	n := b.p.nodes[d]
	n.Ents = n.Ents[2:4]
	b.set(n)
	b.is(list(root, d), answer{list: want[2:4]})
	n.Ents = nil
	b.set(n)
	b.is(list(root, d), answer{})
	b.is(list(root, 1), answer{list: []api.Ent{{Name: "d", No: 2}}})
	b.same()
}

// P16.1: the names of List are as they are in the directory, rising byte by byte.
func TestListNames(t *testing.T) {
	b := opened(t)
	names := []string{"\x01", "\n", " ", "\"", "%41", "-", "...", "..a", ".a", "0", "10", "9", "A", "B", "a", "a ", "a.", "aa", "b", "~", "\x7f", "\xc3\xa9", "e\xcc\x81", "\xff", "\xff\xff", strings.Repeat("n", 255)}
	for _, s := range names {
		b.file(1, s, s)
	}
	var want []api.Ent
	for i, s := range names {
		want = append(want, api.Ent{Name: s, No: 2 + i})
	}
	b.is(list(root, 1), answer{list: sorted(want)})
	for _, x := range want {
		b.is(look(root, 1, x.Name), answer{no: x.No})
		b.is(read(root, x.No), answer{text: x.Name})
	}
}

// P16.1: List and Look of directories of every number of entries from 0 to 300, and of 20000: no entry is left out.
func TestMany(t *testing.T) {
	b := opened(t)
	d := b.dir(1, "d")
	var l []api.Ent
	for k := range 301 {
		b.is(list(users[3], d), answer{list: l})
		for _, i := range []int{0, k / 2, k - 2, k - 1, k, k + 1} {
			s, want := fmt.Sprintf("%04d", i), answer{e: none}
			if 0 <= i && i < k {
				want = answer{no: 1000 + i}
			}
			b.is(look(users[3], d, s), want)
		}
		l = append(l, api.Ent{Name: fmt.Sprintf("%04d", k), No: 1000 + k})
		n := b.p.nodes[d]
		n.Ents = slices.Clone(l)
		b.set(n)
	}
	for k := range 20000 {
		l = append(l, api.Ent{Name: fmt.Sprintf("1%05d", k), No: 1<<20 + k})
	}
	n := b.p.nodes[d]
	n.Ents = slices.Clone(l)
	b.set(n)
	b.is(list(users[3], d), answer{list: l})
	for _, i := range []int{0, 1, 300, 301, 302, 303, 10000, len(l) - 2, len(l) - 1} {
		b.is(look(users[3], d, l[i].Name), answer{no: l[i].No})
	}
	b.same()
}

// P16.1: where a mount covers a directory, its entry tells the root's number, by List and by Look, under the name as it was.
func TestMounts(t *testing.T) {
	b := opened(t)
	c, d := b.dir(1, "c"), b.dir(1, "d")
	b.dir(1, "e")
	x := b.file(d, "x", "")
	over := b.cover(d)
	y := b.file(over, "y", "")
	b.is(list(root, 1), answer{list: []api.Ent{{Name: "c", No: c}, {Name: "d", No: over}, {Name: "e", No: 4}}})
	b.is(look(root, 1, "d"), answer{no: over})
	// The directory and the root have entries of their own, and so each is listed by its number.
	b.is(list(root, d), answer{list: []api.Ent{{Name: "x", No: x}}})
	b.is(list(root, over), answer{list: []api.Ent{{Name: "y", No: y}}})
	b.is(look(root, d, "x"), answer{no: x})
	b.is(look(root, d, "y"), answer{e: none})
	b.is(look(root, over, "x"), answer{e: none})
	b.is(look(root, over, "y"), answer{no: y})
	// A mount on the mount's directory.
	z := b.dir(over, "z")
	deep := b.cover(z)
	b.is(list(root, over), answer{list: []api.Ent{{Name: "y", No: y}, {Name: "z", No: deep}}})
	b.is(look(root, over, "z"), answer{no: deep})
	b.is(list(root, deep), answer{})
	b.is(look(root, deep, "z"), answer{e: none})
	// Other names of what is covered, and a name of the root itself.
	b.name(c, "a", d)
	b.name(c, "b", d)
	b.name(c, "r", over)
	b.name(deep, "t", z)
	b.is(list(root, c), answer{list: []api.Ent{{Name: "a", No: over}, {Name: "b", No: over}, {Name: "r", No: over}}})
	b.is(list(root, deep), answer{list: []api.Ent{{Name: "t", No: deep}}})
	for _, s := range []string{"a", "b", "r"} {
		b.is(look(root, c, s), answer{no: over})
	}
	// The number stays covered when its node went, as chapter 14 says of Over.
	b.kill(d)
	b.is(look(root, 1, "d"), answer{no: over})
	b.is(list(root, 1), answer{list: []api.Ent{{Name: "c", No: c}, {Name: "d", No: over}, {Name: "e", No: 4}}})
	b.is(list(root, d), answer{e: none})
	b.same()
}

// P16.1: each of eight mounts is told by List and by Look, and beside them what none covers.
func TestAllMounts(t *testing.T) {
	b := opened(t)
	d := b.dir(1, "d")
	var want []api.Ent
	for k := range maxMounts - 1 {
		s := fmt.Sprint("m", k)
		over := b.cover(b.dir(d, s))
		want = append(want, api.Ent{Name: s, No: over})
		b.is(list(root, d), answer{list: want})
		for _, x := range want {
			b.is(look(root, d, x.Name), answer{no: x.No})
			b.is(stat(x.No), answer{stat: api.Stat{No: x.No, Dev: b.p.nodes[x.No].Dev, Kind: 1, Mode: 0o755, Links: 1}})
		}
	}
	want = append(want, api.Ent{Name: "n", No: b.dir(d, "n")})
	b.is(list(root, d), answer{list: want})
	b.same()
}

// P16.1: a change to what List answered changes neither the world nor another answer.
func TestListApart(t *testing.T) {
	for _, many := range []int{1, 2, 3, 4, 5, 7, 8, 9, 100} {
		b := opened(t)
		for k := range many {
			b.file(1, fmt.Sprint("f", k), "")
		}
		if many > 3 {
			b.cover(b.dir(1, "f2"))
		}
		first, e := peek.List(b.w, root, 1)
		second, is := peek.List(b.w, root, 1)
		want := slices.Clone(first)
		if len(first) < many || e != api.OK || is != api.OK {
			t.Fatal(first, e, is)
		}
		for i := range first {
			first[i] = api.Ent{Name: "other", No: 99}
		}
		// What is behind an answer's end isn't another answer's either.
		for i := range first[:cap(first)] {
			first[:cap(first)][i].No = 98
		}
		first = append(first, api.Ent{Name: "zz", No: 77})
		if first[0].No != 98 {
			t.Fatal("a fault of this test")
		}
		if !slices.Equal(second, want) {
			t.Errorf("a change to one answer changed another one: %v, want %v", second, want)
		}
		b.is(list(root, 1), answer{list: want})
		for _, x := range want {
			b.is(look(root, 1, x.Name), answer{no: x.No})
		}
		b.same()
		// And the other way round: what comes to the world later isn't in an answer that was given.
		b.file(1, "a", "")
		if !slices.Equal(second, want) {
			t.Errorf("a later change to the world changed an answer: %v, want %v", second, want)
		}
		third, _ := peek.List(b.w, root, 1)
		if len(third) != len(want)+1 || third[0].Name != "a" {
			t.Errorf("List = %v", third)
		}
	}
}

// P16.1: List and Look of what is no directory are ErrNotDir for everybody, also where the node has entries; Look is for
// whatever name.
func TestNotDir(t *testing.T) {
	b := opened(t)
	for _, kind := range append([]int{fileKind, linkKind}, others...) {
		for _, mode := range []int{0, 0o111, 0o444, 0o777, 0o1777} {
			no := b.make(api.Node{Dev: 1, Kind: kind, Mode: mode, UID: 5, GID: 6, Data: "/", Ents: []api.Ent{{Name: "a", No: 1}}})
			for _, c := range users {
				b.is(list(c, no), answer{e: notDir})
				for _, s := range append(odd, "a", "b") {
					b.is(look(c, no, s), answer{e: notDir})
				}
			}
		}
	}
}

// P16.1: Read and Target of kinds that they don't tell the Data of, for everybody and with every mode; Read of other kinds
// asks for Read permission, and Target for none.
func TestKinds(t *testing.T) {
	b := opened(t)
	for _, kind := range append([]int{dirKind, fileKind, linkKind}, others...) {
		for _, mode := range []int{0, 0o222, 0o333, 0o400, 0o444, 0o777, 0o1777} {
			no := b.make(api.Node{Dev: 1, Kind: kind, Mode: mode, UID: 5, GID: 6, Data: "its data"})
			for _, c := range users {
				readable := c.UID == 0 || mode&0o444 == 0o444 || mode == 0o400 && c.UID == 5
				want := answer{text: "its data"}
				switch {
				case kind == dirKind:
					want = answer{e: isDir}
				case kind == linkKind:
					want = answer{e: wrong}
				case !readable:
					want = answer{e: access}
				}
				b.is(read(c, no), want)
			}
			want := answer{text: "its data"}
			switch kind {
			case dirKind:
				want = answer{e: isDir}
			case fileKind:
				want = answer{e: wrong}
			}
			b.is(target(no), want)
		}
	}
	b.same()
}

// P16.1: Look of names that are there, that are not, and that are no names, in directories of each choice of some names.
func TestLook(t *testing.T) {
	names := []string{"A", "a", "a ", "aa", "ab", "b", "\xff"}
	for choice := range 1 << len(names) {
		b := opened(t)
		n := b.p.nodes[1]
		for i, s := range names {
			if choice>>i&1 == 1 {
				n.Ents = append(n.Ents, api.Ent{Name: s, No: 10 + i})
			}
		}
		b.set(n)
		for i, s := range names {
			want := answer{no: 10 + i}
			if choice>>i&1 == 0 {
				want = answer{e: none}
			}
			b.is(look(root, 1, s), want)
			for _, other := range []string{s + "\x00", s + "x", "x" + s, s + "/", "/" + s, "./" + s, s + "\xff", s + s + s} {
				b.is(look(root, 1, other), answer{e: none})
			}
		}
		for _, s := range odd {
			b.is(look(root, 1, s), answer{e: none})
		}
	}
}

// P16.1: a name of 255 bytes is looked up, and with one byte more or less there is no such name.
func TestLookLong(t *testing.T) {
	b := opened(t)
	long := strings.Repeat("n", 255)
	f := b.file(1, long, "")
	b.is(look(root, 1, long), answer{no: f})
	for _, s := range []string{long + "n", long[1:], long[1:] + "m", "m" + long[1:], long + long, long + "\x00", long + "/"} {
		b.is(look(root, 1, s), answer{e: none})
	}
}

// P16.1: Look isn't a path's resolution: ".." and "." have no meaning, and a link isn't followed.
func TestLookItself(t *testing.T) {
	b := opened(t)
	d := b.dir(1, "d")
	l := b.link(d, "l", "/d")
	for _, s := range odd {
		b.is(look(root, d, s), answer{e: none})
	}
	b.is(look(root, d, "l"), answer{no: l})
	b.is(look(root, l, "l"), answer{e: notDir})
	b.is(look(root, 1, "d/l"), answer{e: none})
	// Whatever has a name is found by it: P16.1 asks for an entry of that name alone.
	for _, s := range odd {
		b.name(d, s, l)
		b.is(look(root, d, s), answer{no: l})
	}
}

// P16.1: Look answers an entry's number whether a node has it or not.
func TestLookNumbers(t *testing.T) {
	b := opened(t)
	d := b.dir(1, "d")
	g := b.file(d, "g", "")
	b.kill(g)
	b.is(look(root, d, "g"), answer{no: g})
	for _, no := range []int{1, 2, 3, 4, 9999, 1 << 32, 1<<32 + 1, math.MaxInt} {
		b.name(d, "n", no)
		b.is(look(root, d, "n"), answer{no: no})
		b.is(list(root, d), answer{list: []api.Ent{{Name: "g", No: g}, {Name: "n", No: no}}})
	}
}

// P16.1: nodes with great numbers are there like others: numbers rise beyond MaxNodes where nodes go and others come.
func TestGreatNumbers(t *testing.T) {
	b := opened(t)
	for range 8*65536 + 100 {
		no, e := b.w.Make(api.Node{Dev: 1, Kind: fileKind})
		if e != accepted || !b.w.Kill(no) {
			t.Fatalf("a fault of this test: Make = %d, %d", no, e)
		}
	}
	d := b.dir(1, "d")
	f, l := b.file(d, "f", "data"), b.link(d, "l", "text")
	m := b.dir(d, "m")
	over := b.cover(m)
	if d != 8*65536+102 || over != d+4 {
		t.Fatal("a fault of this test", d, over)
	}
	b.is(list(root, d), answer{list: []api.Ent{{Name: "f", No: f}, {Name: "l", No: l}, {Name: "m", No: over}}})
	b.is(look(root, 1, "d"), answer{no: d})
	b.is(look(root, d, "m"), answer{no: over})
	b.is(read(root, f), answer{text: "data"})
	b.is(target(l), answer{text: "text"})
	b.is(stat(over), answer{stat: api.Stat{No: over, Dev: 2, Kind: 1, Mode: 0o755, Links: 1}})
	b.is(stat(d-1), answer{e: none})
	b.every(root)
	b.same()
}

// P16.1: Read permission for List and Read, and Search permission for Look, by every mode, for users of each sort.
func TestModes(t *testing.T) {
	b := opened(t)
	d, f, o := b.dir(1, "d"), b.file(1, "f", "data"), b.put(1, "o", api.Node{Kind: 4, Data: "odd"})
	b.name(d, "x", f)
	for mode := range 1024 {
		for _, no := range []int{d, f, o} {
			n := b.p.nodes[no]
			n.Mode, n.UID, n.GID = mode, 5, 6
			b.set(n)
		}
		for _, c := range users {
			bits := mode & 7
			switch {
			case c.UID == 0:
				bits = 7
			case c.UID == 5:
				bits = mode >> 6 & 7
			case c.GID == 6:
				bits = mode >> 3 & 7
			}
			l, s, other, x, missing := answer{e: access}, answer{e: access}, answer{e: access}, answer{e: access}, answer{e: access}
			if bits&4 != 0 {
				l, s, other = answer{list: []api.Ent{{Name: "x", No: f}}}, answer{text: "data"}, answer{text: "odd"}
			}
			if bits&1 != 0 {
				x, missing = answer{no: f}, answer{e: none}
			}
			b.is(list(c, d), l)
			b.is(read(c, f), s)
			b.is(read(c, o), other)
			b.is(look(c, d, "x"), x)
			b.is(look(c, d, "y"), missing)
		}
	}
	b.same()
}

// P16.1: some permissions by hand: of the owner, of the group, of others and of user 0.
func TestPermissions(t *testing.T) {
	b := opened(t)
	owner, group, other := api.Cred{UID: 5, GID: 9}, api.Cred{UID: 7, GID: 6}, api.Cred{UID: 7, GID: 9}
	for _, x := range []struct {
		mode               int
		reads, looks       []api.Cred
		readsNot, looksNot []api.Cred
	}{
		{0o000, []api.Cred{root}, []api.Cred{root}, []api.Cred{owner, group, other}, []api.Cred{owner, group, other}},
		{0o400, []api.Cred{root, owner}, []api.Cred{root}, []api.Cred{group, other}, []api.Cred{owner, group, other}},
		{0o040, []api.Cred{root, group}, []api.Cred{root}, []api.Cred{owner, other}, []api.Cred{owner, group, other}},
		{0o004, []api.Cred{root, other}, []api.Cred{root}, []api.Cred{owner, group}, []api.Cred{owner, group, other}},
		{0o100, []api.Cred{root}, []api.Cred{root, owner}, []api.Cred{owner, group, other}, []api.Cred{group, other}},
		{0o010, []api.Cred{root}, []api.Cred{root, group}, []api.Cred{owner, group, other}, []api.Cred{owner, other}},
		{0o001, []api.Cred{root}, []api.Cred{root, other}, []api.Cred{owner, group, other}, []api.Cred{owner, group}},
		{0o1222, []api.Cred{root}, []api.Cred{root}, []api.Cred{owner, group, other}, []api.Cred{owner, group, other}},
		{0o754, []api.Cred{root, owner, group, other}, []api.Cred{root, owner, group}, nil, []api.Cred{other}},
		{0o751, []api.Cred{root, owner, group}, []api.Cred{root, owner, group, other}, []api.Cred{other}, nil},
	} {
		d := b.make(api.Node{Dev: 1, Kind: dirKind, Mode: x.mode, UID: 5, GID: 6, Ents: []api.Ent{{Name: "a", No: 8}}})
		f := b.make(api.Node{Dev: 1, Kind: fileKind, Mode: x.mode, UID: 5, GID: 6, Data: "text"})
		for _, c := range x.reads {
			b.is(list(c, d), answer{list: []api.Ent{{Name: "a", No: 8}}})
			b.is(read(c, f), answer{text: "text"})
		}
		for _, c := range x.readsNot {
			b.is(list(c, d), answer{e: access})
			b.is(read(c, f), answer{e: access})
		}
		for _, c := range x.looks {
			b.is(look(c, d, "a"), answer{no: 8})
		}
		for _, c := range x.looksNot {
			b.is(look(c, d, "a"), answer{e: access})
		}
	}
}

// P16.1: permissions are those of the asked node alone: not of what is above it, nor of what its entries tell, nor of what
// covers it, or is covered by it.
func TestPermissionsAlone(t *testing.T) {
	b := opened(t)
	c := api.Cred{UID: 7, GID: 8}
	closed := b.put(1, "closed", api.Node{Kind: dirKind})
	open := b.put(closed, "open", api.Node{Kind: dirKind, Mode: 0o005})
	secret := b.put(open, "secret", api.Node{Kind: fileKind, Data: "none of theirs"})
	f := b.file(closed, "f", "theirs, too")
	b.is(list(c, open), answer{list: []api.Ent{{Name: "secret", No: secret}}})
	b.is(look(c, open, "secret"), answer{no: secret})
	b.is(read(c, secret), answer{e: access})
	b.is(read(c, f), answer{text: "theirs, too"})
	b.is(list(c, closed), answer{e: access})
	b.is(look(c, closed, "open"), answer{e: access})
	over := b.cover(closed)
	b.is(look(c, 1, "closed"), answer{no: over})
	b.is(list(c, over), answer{})
	b.is(list(c, closed), answer{e: access})
	b.is(look(c, closed, "open"), answer{e: access})
	n := b.p.nodes[over]
	n.Mode = 0
	b.set(n)
	b.is(look(c, 1, "closed"), answer{no: over})
	b.is(list(c, over), answer{e: access})
	b.is(look(c, over, "x"), answer{e: access})
	n = b.p.nodes[closed]
	n.Mode = 0o777
	b.set(n)
	b.is(list(c, closed), answer{list: []api.Ent{{Name: "f", No: f}, {Name: "open", No: open}}})
	b.is(look(c, closed, "f"), answer{no: f})
	b.is(list(c, over), answer{e: access})
}

// P16.1: bits beyond the nine of a mode permit nothing, also in modes that no node has by the document.
func TestOtherBits(t *testing.T) {
	b := opened(t)
	d, f := b.dir(1, "d"), b.file(1, "f", "data")
	for _, mode := range []int{512, 1024, 0o7000, 1 << 32, 1<<32 | 0o222, math.MinInt, math.MaxInt &^ 0o555, -1, -1 &^ 0o555, 0o4755, math.MaxInt, -0o1000} {
		for _, no := range []int{d, f} {
			n := b.p.nodes[no]
			n.Mode, n.UID, n.GID = mode, 5, 6
			b.set(n)
		}
		for _, c := range users {
			want := mode&0o555 != 0 || c.UID == 0
			for _, q := range []question{list(c, d), read(c, f), look(c, d, "f")} {
				if a := b.drawn(q); (a.e != access) != want {
					t.Errorf("%v = %v with the mode %o", q, a, mode)
				}
			}
		}
	}
}

// P16.1: the errors of a call come in the order of the chapter's sentences: each one that applies beside all later ones.
func TestOrder(t *testing.T) {
	b := opened(t)
	c := api.Cred{UID: 7, GID: 8}
	d := b.put(1, "d", api.Node{Kind: dirKind})
	f := b.put(1, "f", api.Node{Kind: fileKind})
	l := b.put(1, "l", api.Node{Kind: linkKind})
	o := b.put(1, "o", api.Node{})
	for _, s := range append(odd, "none") {
		for _, q := range all(c, 99, s) {
			if got := q.ask(nil); !got.equal(answer{e: wrong}) {
				t.Errorf("%v of a nil World = %v", q, got)
			}
			b.is(q, answer{e: none})
		}
		b.is(look(c, d, s), answer{e: access})
		for _, no := range []int{f, l, o} {
			b.is(look(c, no, s), answer{e: notDir})
			b.is(list(c, no), answer{e: notDir})
		}
		n := b.p.nodes[d]
		n.Mode = 0o676
		b.set(n)
		b.is(look(c, d, s), answer{e: access})
		n.Mode = 0o001
		b.set(n)
		b.is(look(c, d, s), answer{e: none})
		b.is(list(c, d), answer{e: access})
		n.Mode = 0
		b.set(n)
	}
	b.is(read(c, d), answer{e: isDir})
	b.is(read(c, l), answer{e: wrong})
	b.is(read(c, f), answer{e: access})
	b.is(read(c, o), answer{e: access})
	b.is(target(d), answer{e: isDir})
	b.is(target(f), answer{e: wrong})
	b.is(target(l), answer{})
	b.is(target(o), answer{})
}

// P16.1: answers are of the world as it is when it is asked.
func TestChanges(t *testing.T) {
	b := opened(t)
	d, f := b.dir(1, "d"), b.file(1, "f", "one")
	b.is(read(root, f), answer{text: "one"})
	b.fill(f, "three")
	b.is(read(root, f), answer{text: "three"})
	b.is(look(root, 1, "d"), answer{no: d})
	over := b.cover(d)
	b.is(look(root, 1, "d"), answer{no: over})
	b.name(1, "d", f)
	b.is(look(root, 1, "d"), answer{no: f})
	n := b.p.nodes[f]
	n.Kind = linkKind
	b.set(n)
	b.is(read(root, f), answer{e: wrong})
	b.is(target(f), answer{text: "three"})
	n.Kind = dirKind
	b.set(n)
	b.is(read(root, f), answer{e: isDir})
	b.is(target(f), answer{e: isDir})
	b.is(list(root, f), answer{})
	b.kill(f)
	for _, q := range all(root, f, "a") {
		b.is(q, answer{e: none})
	}
	b.is(look(root, 1, "d"), answer{no: f})
}

// pick draws one of several.
func pick[T any](r *rand.Rand, l ...T) T { return l[r.IntN(len(l))] }

// names are those that drawn worlds have.
var names = []string{"a", "b", "c", "d", "ab", "b.~1~", "é", "\xff"}

// someone draws a user.
func someone(r *rand.Rand) api.Cred { return api.Cred{UID: r.IntN(3), GID: r.IntN(3)} }

// data draws a node's bytes.
func data(r *rand.Rand) string {
	s := make([]byte, r.IntN(pick(r, 2, 20, 600)))
	for i := range s {
		s[i] = byte(r.IntN(256))
	}
	return string(s)
}

// dressed draws what a node has beside its kind, its number, its mount and its directory.
func dressed(r *rand.Rand, n api.Node) api.Node {
	n.Mode, n.UID, n.GID = r.IntN(1024), r.IntN(3), r.IntN(3)
	n.Mtime, n.Ctime, n.Links = r.IntN(1000), r.IntN(1000), r.IntN(5)
	return n
}

// some draws a number: of a node, and at times of one that went, or that isn't there yet.
func some(b *both, r *rand.Rand) int {
	if r.IntN(8) == 0 {
		return r.IntN(b.last()+4) - 1
	}
	return pick(r, slices.Sorted(maps.Keys(b.p.nodes))...)
}

// last is the greatest number of a node.
func (b *both) last() int { return slices.Max(slices.Collect(maps.Keys(b.p.nodes))) }

// step draws a change of a world.
func step(b *both, r *rand.Rand) {
	b.Helper()
	no := some(b, r)
	n, ok := b.p.nodes[no]
	switch i := r.IntN(20); {
	case !ok:
	case i < 8 && n.Kind == dirKind:
		made := dressed(r, api.Node{Kind: pick(r, dirKind, dirKind, dirKind, fileKind, fileKind, linkKind, linkKind, 0, 4, -1), Data: data(r)})
		b.put(no, pick(r, names...), made)
	case i < 10 && n.Kind == dirKind:
		b.name(no, pick(r, names...), 1+r.IntN(b.last()+3))
	case i < 11 && n.Kind == dirKind:
		n.Ents = slices.DeleteFunc(slices.Clone(n.Ents), func(api.Ent) bool { return r.IntN(3) == 0 })
		b.set(n)
	case i < 13:
		b.set(dressed(r, n))
	case i < 15:
		b.fill(no, data(r))
	case i < 16 && b.w.Root(n.Dev) != no:
		b.kill(no)
	case i < 18 && n.Kind == dirKind && b.w.Root(n.Dev) != no && b.p.reached(no) == no && len(b.p.over) < maxMounts-1:
		b.cover(no)
	}
}

// world draws a world.
func world(t *testing.T, r *rand.Rand) *both {
	t.Helper()
	b := opened(t)
	for range 10 + r.IntN(120) {
		step(b, r)
	}
	return b
}

// ask draws a question.
func ask(b *both, r *rand.Rand) question {
	no, s := some(b, r), pick(r, names...)
	if r.IntN(20) == 0 {
		no = pick(r, nowhere...)
	}
	if l := b.p.nodes[no].Ents; len(l) > 0 && r.IntN(2) == 0 {
		s = pick(r, l...).Name
	}
	if r.IntN(20) == 0 {
		s = pick(r, odd...)
	}
	return pick(r, all(someone(r), no, s)...)
}

// P16.1: long sequences of drawn worlds, changes and questions, held against a plain world.
func TestDrawn(t *testing.T) {
	r := rand.New(rand.NewPCG(16, 1))
	found := map[string]int{}
	mounted := map[string]int{}
	for range 300 {
		b := world(t, r)
		for range 500 {
			q := ask(b, r)
			a := b.drawn(q)
			found[fmt.Sprint(q.what, " ", a.e)]++
			if q.what == "List" && slices.ContainsFunc(a.list, func(x api.Ent) bool { return b.p.nodes[x.No].Dev > b.p.nodes[q.no].Dev }) {
				mounted[q.what]++
			}
			if q.what == "Look" && a.no != 0 && b.p.nodes[a.no].Dev > b.p.nodes[q.no].Dev {
				mounted[q.what]++
			}
			if r.IntN(10) == 0 {
				step(b, r)
			}
		}
		b.same()
	}
	sorts := []string{
		"Stat 0", "Stat 5", "List 0", "List 5", "List 6", "List 9", "Read 0", "Read 5", "Read 6", "Read 8", "Read 1", "Target 0", "Target 5", "Target 8", "Target 1",
		"Look 0", "Look 5", "Look 6", "Look 9",
	}
	for _, s := range sorts {
		if found[s] < 500 {
			t.Errorf("only %d answers are of the sort %q", found[s], s)
		}
	}
	if len(found) != len(sorts) || mounted["List"] < 500 || mounted["Look"] < 200 {
		t.Errorf("%v, from a mount to another one %v", found, mounted)
	}
}

// P16.1: all functions of all numbers of drawn worlds, for users of each sort; what List tells of a directory, Look does.
func TestDrawnWhole(t *testing.T) {
	r := rand.New(rand.NewPCG(16, 2))
	for range 200 {
		b := world(t, r)
		b.every(someone(r))
		for no := range b.p.nodes {
			l, e := peek.List(b.w, root, no)
			st, _ := peek.Stat(b.w, no)
			if (e == api.OK) != (st.Kind == api.Dir) {
				t.Fatalf("List of node %d = %v, %d, but its kind is %d", no, l, e, st.Kind)
			}
			for _, s := range append(odd, names...) {
				want := answer{e: none}
				for _, x := range l {
					if x.Name == s {
						want = answer{no: x.No}
					}
				}
				b.is(look(root, no, s), b.orNotDir(no, want))
			}
		}
		b.same()
	}
}

// orNotDir is the answer, or ErrNotDir for what is no directory.
func (b *both) orNotDir(no int, a answer) answer {
	if b.p.nodes[no].Kind != dirKind {
		return answer{e: notDir}
	}
	return a
}

// R4: no call changes a world, whatever it answers: also not what its mounts have in use, and where its directories are.
func TestUnchanged(t *testing.T) {
	r := rand.New(rand.NewPCG(16, 3))
	for range 20 {
		b := world(t, r)
		before := told(b.w)
		for no := -1; no < b.last()+3; no++ {
			for _, c := range []api.Cred{root, someone(r)} {
				for _, q := range all(c, no, pick(r, names...)) {
					q.ask(b.w)
					if after := told(b.w); after != before {
						t.Fatalf("%v changed the world from\n%s\nto\n%s", q, before, after)
					}
				}
			}
		}
		// And what comes next comes as if nothing had been asked.
		if no, e := b.w.Make(api.Node{Dev: 1, Kind: api.File}); e != api.OK || no <= b.last() {
			t.Fatalf("Make = %d, %d", no, e)
		}
	}
}

// R5: each answer comes again, also beside other worlds.
func TestAgain(t *testing.T) {
	r := rand.New(rand.NewPCG(16, 4))
	type asked struct {
		b *both
		q question
		a answer
	}
	var l []asked
	for range 20 {
		b := world(t, r)
		for range 200 {
			q := ask(b, r)
			l = append(l, asked{b, q, b.drawn(q)})
		}
	}
	for range 3 {
		r.Shuffle(len(l), func(i, j int) { l[i], l[j] = l[j], l[i] })
		for _, x := range l {
			if got := x.q.ask(x.b.w); !got.equal(x.a) {
				t.Fatalf("%v = %v, and at first %v", x.q, got, x.a)
			}
		}
	}
	for _, x := range l {
		x.b.same()
	}
}

// R1: each call ends without a panic, also for entries that are none by chapter 11.
func TestAnyhow(t *testing.T) {
	for _, l := range [][]api.Ent{
		{{Name: "b", No: 2}, {Name: "a", No: 1}}, {{Name: "a", No: 1}, {Name: "a", No: 2}}, {{Name: "", No: 0}, {Name: "..", No: 2}, {Name: "a/b", No: 2}},
		{{Name: "c", No: 3}, {Name: "b", No: 2}, {Name: "a", No: 1}}, {{Name: "a", No: math.MinInt}, {Name: "b", No: math.MaxInt}, {Name: "c", No: 0}},
	} {
		b := opened(t)
		b.cover(b.dir(1, "d"))
		for no := 1; no <= 3; no++ {
			n := b.p.nodes[no]
			n.Ents = l
			b.set(n)
			for _, c := range users {
				for _, s := range append(odd, "a", "b", "c", "d") {
					for _, q := range all(c, no, s) {
						if a := q.ask(b.w); a.e != accepted && !a.equal(answer{e: a.e}) {
							t.Errorf("%v = %v", q, a)
						}
					}
				}
			}
		}
		b.same()
	}
}

// P16.1: List of a directory of many entries doesn't take longer than its length, and neither does any call of great Data.
func TestTime(t *testing.T) {
	begun := time.Now()
	b := opened(t)
	d, f, l := b.dir(1, "d"), b.file(1, "f", ""), b.link(1, "l", "")
	n := b.p.nodes[d]
	for k := range 300000 {
		n.Ents = append(n.Ents, api.Ent{Name: fmt.Sprintf("%06d", k), No: k + 10})
	}
	b.set(n)
	b.fill(f, strings.Repeat("x", 20<<20))
	b.fill(l, strings.Repeat("y", 20<<20))
	for range 5 {
		for _, q := range []question{list(root, d), look(root, d, "150000"), look(root, d, strings.Repeat("0", 20<<20)), stat(d), stat(f), stat(l), read(root, f), target(l)} {
			if got := q.ask(b.w); got.e != accepted && q.what != "Look" {
				t.Errorf("%v = error %d", q, got.e)
			}
		}
	}
	if got, e := peek.List(b.w, root, d); len(got) != 300000 || e != api.OK || got[299999] != n.Ents[299999] {
		t.Errorf("List has %d entries, error %d", len(got), e)
	}
	if took := time.Since(begun); took > time.Minute {
		t.Errorf("it took %v", took)
	}
}

// P16.1, beyond the tests above: a drawn world, with a name and bytes that are handed in.
func FuzzPeek(f *testing.F) {
	for _, s := range append(odd[:11:11], "a", "ab", "é", "\xff", "0123456789") {
		f.Add(s, uint64(1), 0, 0, 1, 0o755)
		f.Add(s, uint64(2), 1, 2, 5, 0o1641)
	}
	f.Fuzz(func(t *testing.T, s string, seed uint64, uid, gid, no, mode int) {
		r := rand.New(rand.NewPCG(16, seed))
		b := world(t, r)
		c := api.Cred{UID: uid, GID: gid}
		for _, q := range all(c, no, s) {
			b.drawn(q)
		}
		x := b.put(1, s, api.Node{Kind: pick(r, dirKind, fileKind, linkKind), Mode: mode, UID: 1, GID: gid, Data: s})
		b.name(x, s, 1+r.IntN(b.last()+3))
		for _, at := range []int{1, x} {
			for _, q := range all(c, at, s) {
				b.drawn(q)
			}
		}
		b.every(c)
		b.same()
	})
}
