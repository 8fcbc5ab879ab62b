package bring_test

import (
	"fmt"
	"maps"
	"math"
	"math/rand/v2"
	"slices"
	"strings"
	"testing"
	"time"

	"ragpicker/api"
	"ragpicker/bring"
	"ragpicker/ents"
	"ragpicker/mount"
	"ragpicker/table"
)

// P17.2: the chapter's example.
func TestExample(t *testing.T) {
	w, e := mount.New(9, 9)
	if e != api.OK {
		t.Fatal(e)
	}
	if no, e := bring.Dir(w, root, 0, 1, "d", 0o755); no != 2 || e != api.OK {
		t.Errorf("Dir = %d, %d", no, e)
	}
	if no, e := bring.Dir(w, root, 0, 1, "d", 0o755); no != 0 || e != api.ErrExist {
		t.Errorf("Dir again = %d, %d", no, e)
	}
}

// P17.1, P17.2: a nil World is ErrArg, also where other things are wrong, but for what is checked ahead of it.
func TestNilWorld(t *testing.T) {
	for _, c := range append(users, root) {
		for _, dir := range append([]int{1, 2, 3}, nowhere...) {
			for s := range noNames {
				for _, q := range append(all(c, 7, dir, dir, s), all(c, -7, 1, dir, "a")...) {
					if got := q.do(nil); !got.equal(answer{e: wrong}) {
						t.Errorf("%v of a nil World = %v, want error 1", q, got)
					}
				}
			}
			bring.Touch(nil, dir, 7, nil)
			bring.Touch(nil, dir, 7, []api.Ent{{Name: "a", No: 1}})
		}
	}
	for _, x := range []struct {
		q    call
		want api.Errno
	}{
		{mkdir(root, 0, 1, "a", -1), wrong}, {mkdir(root, 0, 1, "a", 1024), wrong}, {mkfile(root, 0, 1, "a", -1, ""), wrong}, {mkfile(root, 0, 1, "a", 1024, huge), wrong},
		{mkfile(root, 0, 1, "a", 0, huge), tooMuch}, {symlink(root, 0, 1, "a", ""), wrong}, {symlink(root, 0, 1, "a", "\x00"), wrong},
		{symlink(root, 0, 1, "a", huge[:4097]), tooLong}, {symlink(root, 0, 1, "a", huge+"\x00"), wrong},
	} {
		if got := x.q.do(nil); !got.equal(answer{e: x.want}) {
			t.Errorf("%v of a nil World = %v, want error %d", x.q, got, x.want)
		}
	}
}

// huge is one byte more than a file may have.
var huge = strings.Repeat("x", maxFile+1)

// P17.1, P17.2: a World that New did not create has no node.
func TestEmptyWorld(t *testing.T) {
	for _, w := range []*mount.World{{}, {Table: table.New()}, {Table: &table.Table{}}} {
		for _, dir := range append([]int{1, 2}, nowhere...) {
			for _, q := range append(all(root, 0, dir, dir, "a"), all(users[0], 0, 1, dir, "..")...) {
				if got := q.do(w); !got.equal(answer{e: none}) {
					t.Errorf("%v of an empty World = %v, want error 5", q, got)
				}
			}
			bring.Touch(w, dir, 7, []api.Ent{{Name: "a", No: 1}})
			if w.Len() != 0 {
				t.Errorf("Touch brought %d nodes", w.Len())
			}
		}
	}
}

// hut is a world with nodes of all kinds, on three mounts; the comments tell the numbers.
func hut(t *testing.T) *both {
	b := opened(t)
	a := b.dir(1, "a")                                                 // 2: /a
	b.file(a, "f", "in /a\n")                                          // 3: /a/f
	b.link(a, "l", "../a/f")                                           // 4: /a/l
	m := b.dir(a, "m")                                                 // 5: /a/m, covered
	b.file(m, "h", "hidden")                                           // 6: /a/m/h, hidden
	r := b.cover(m)                                                    // 7: the root at /a/m
	b.file(r, "x", "on it")                                            // 8: /a/m/x
	d := b.dir(r, "d")                                                 // 9: /a/m/d, covered
	b.link(d, "h", "hidden, too")                                      // 10: /a/m/d/h, hidden
	s := b.cover(d)                                                    // 11: the root at /a/m/d
	b.link(s, "y", "/")                                                // 12: /a/m/d/y
	b.put(a, "o", api.Node{Kind: 0, Mode: 0o777, Data: "of no kind"})  // 13: /a/o
	b.put(1, "u", api.Node{Kind: 77, Mode: 0o777, Data: "of another"}) // 14: /u
	e := b.put(1, "e", api.Node{Kind: dirKind, Mode: 0o750, UID: 5})   // 15: /e
	if len(b.p.nodes) != 15 || b.w.Len() != 15 || e != 15 {
		t.Fatal("a fault of this test")
	}
	return b
}

// P17.1, P17.2: all functions, of all numbers, for users of each sort, in the world hut.
func TestHut(t *testing.T) {
	b := hut(t)
	for _, c := range users {
		for no := 0; no <= 16; no++ {
			for dir := 0; dir <= 16; dir++ {
				for _, s := range []string{"b", "f", "h", "x", ".."} {
					for _, q := range all(c, 100+no, no, dir, s) {
						want := (&plain{maps.Clone(b.p.nodes), b.p.last, b.p.over, b.p.most}).do(q)
						b.tried(q, want)
					}
				}
			}
		}
	}
}

// P17.1, P17.2: each function is ErrNone for a directory's number without a node, for whomever and with whatever name;
// Touch brings nothing there.
func TestNoNode(t *testing.T) {
	b := hut(t)
	gone := []int{3, 4, 5, 6, 8, 9, 12, 13, 14, 15}
	for _, no := range gone {
		b.kill(no)
	}
	for _, no := range append(append([]int{16, 17, 18, 32, 100}, gone...), nowhere...) {
		for _, c := range users {
			for s := range noNames {
				for _, q := range append(all(c, 7, 1, no, s), all(c, 7, 1, no, "n")...) {
					b.is(q, answer{e: none})
				}
			}
		}
		b.is(touch(no, 7), answer{})
		b.is(touch(no, 7, api.Ent{Name: "a", No: 1}), answer{})
		// Hard of a number without a node, where a name may come.
		b.is(hard(root, 7, no, 2, "n"), answer{e: none})
		b.is(hard(users[3], 7, no, 2, "f"), answer{e: none})
	}
	// The number behind the last is a node's as soon as one comes, and the numbers of those that went stay without one.
	b.is(mkdir(root, 7, 1, "n", 0o700), answer{no: 16})
	b.is(mkfile(root, 7, 16, "n", 0o700, ""), answer{no: 17})
	b.is(hard(root, 7, 17, 1, "o"), answer{})
	for _, no := range append(gone, 18) {
		b.is(hard(root, 7, no, 16, "m"), answer{e: none})
		b.is(mkdir(root, 7, no, "m", 0), answer{e: none})
	}
}

// P17.1, P17.2: what is no directory is ErrNotDir for everybody and with every name, also where the node has entries.
func TestNotDir(t *testing.T) {
	b := opened(t)
	for _, kind := range append([]int{fileKind, linkKind}, others...) {
		for _, mode := range []int{0, 0o333, 0o777, 0o1777} {
			no := b.make(api.Node{Dev: 1, Kind: kind, Mode: mode, UID: 5, GID: 6, Data: "/", Ents: []api.Ent{{Name: "a", No: 1}}})
			for _, c := range users {
				for _, s := range []string{"a", "b", "", "..", "a/", strings.Repeat("a", 256)} {
					for _, q := range append(all(c, 7, no, no, s), all(c, 7, 99, no, s)...) {
						b.is(q, answer{e: notDir})
					}
				}
			}
		}
	}
}

// P17.1, P17.2: each text that is no name has its error, ahead of ErrAccess, and each that is one is taken.
func TestNames(t *testing.T) {
	b := opened(t)
	d := b.put(1, "d", api.Node{Kind: dirKind, UID: 5, GID: 6})
	f := b.file(1, "f", "data")
	for s, e := range noNames {
		for _, c := range users {
			for _, q := range append(all(c, 7, f, d, s), all(c, 7, 99, d, s)...) {
				b.is(q, answer{e: e})
			}
		}
	}
	for _, s := range okNames {
		for _, c := range users {
			for _, q := range all(c, 7, f, d, s) {
				want := answer{e: access}
				if c.UID == 0 {
					want = b.ought(q)
				}
				b.tried(q, want)
			}
		}
	}
	for _, s := range okNames {
		b.is(mkfile(root, 7, d, s, 0, s), answer{no: b.p.last + 1})
	}
	if got, _ := b.w.Get(d); len(got.Ents) != len(okNames) || !ents.Check(got.Ents) {
		t.Errorf("the entries are %v", got.Ents)
	}
	for _, s := range okNames {
		b.is(mkdir(root, 7, d, s, 0), answer{e: exists})
	}
}

// ought is what a call ought to answer if nothing is wrong with it.
func (b *both) ought(q call) answer {
	switch q.what {
	case "Place":
		return answer{node: b.p.nodes[q.dir]}
	case "Touch", "Hard":
		return answer{}
	}
	return answer{no: b.p.last + 1}
}

// P17.1: Place answers the directory with all its fields, as it is, whatever names it has.
func TestPlace(t *testing.T) {
	b := opened(t)
	top := api.Node{No: 1, Dev: 1, Kind: 1, Mode: 0o755, Links: 1, Up: 1}
	b.is(place(root, 1, "a"), answer{node: top})
	n := api.Node{No: 999, Dev: 1, Kind: dirKind, Mode: 0o1753, UID: 15, GID: 16, Mtime: 17, Ctime: 18, Links: 19, Up: 20, Data: "data", Ents: []api.Ent{{Name: "a", No: 22}, {Name: "c", No: 1}}}
	n.No = b.make(n)
	for _, s := range okNames {
		b.is(place(api.Cred{UID: 1, GID: 16}, n.No, s), answer{e: access})
		b.is(place(api.Cred{UID: 1, GID: 1}, n.No, s), answer{node: n})
		b.is(place(api.Cred{UID: 15, GID: 1}, n.No, s), answer{node: n})
		b.is(place(root, n.No, s), answer{node: n})
	}
	// A name that is there is no error of Place's, and neither is a mount that is full.
	for _, s := range []string{"a", "b", "c"} {
		b.is(place(root, n.No, s), answer{node: n})
	}
	full := limited(t, 1, 1)
	full.is(place(root, 1, "a"), answer{node: top})
	b.same()
}

// P17.1, P17.2: Write and Search permission, by every mode of the directory, for users of each sort.
func TestModes(t *testing.T) {
	b := opened(t)
	d, f := b.dir(1, "d"), b.file(1, "f", "data")
	b.name(d, "x", f)
	for mode := range 1024 {
		b.open(d, mode, 5, 6)
		for _, c := range users {
			bits := mode & 7
			switch {
			case c.UID == 0:
				bits = 7
			case c.UID == 5:
				bits = mode >> 6 & 7
			case c.GID == 6:
				bits = mode >> 3 & 7
			}
			for _, q := range append(all(c, mode, f, d, "n"), place(c, d, "x")) {
				want := answer{e: access}
				if bits&3 == 3 {
					want = b.ought(q)
				}
				b.tried(q, want)
			}
			for _, q := range all(c, mode, f, d, "x")[1:] {
				want := answer{e: access}
				if bits&3 == 3 {
					want = answer{e: exists}
				}
				b.is(q, want)
			}
		}
	}
}

// P17.1, P17.2: some permissions by hand: of the owner, of the group, of others and of user 0.
func TestPermissions(t *testing.T) {
	b := opened(t)
	owner, group, other := api.Cred{UID: 5, GID: 9}, api.Cred{UID: 7, GID: 6}, api.Cred{UID: 7, GID: 9}
	d, f := b.dir(1, "d"), b.file(1, "f", "data")
	for _, x := range []struct {
		mode        int
		may, mayNot []api.Cred
	}{
		{0o000, []api.Cred{root}, []api.Cred{owner, group, other}},
		{0o300, []api.Cred{root, owner}, []api.Cred{group, other}},
		{0o030, []api.Cred{root, group}, []api.Cred{owner, other}},
		{0o003, []api.Cred{root, other}, []api.Cred{owner, group}},
		{0o222, []api.Cred{root}, []api.Cred{owner, group, other}},
		{0o111, []api.Cred{root}, []api.Cred{owner, group, other}},
		{0o666, []api.Cred{root}, []api.Cred{owner, group, other}},
		{0o555, []api.Cred{root}, []api.Cred{owner, group, other}},
		{0o213, []api.Cred{root, other}, []api.Cred{owner, group}},
		{0o1121, []api.Cred{root}, []api.Cred{owner, group, other}},
		{0o755, []api.Cred{root, owner}, []api.Cred{group, other}},
		{0o775, []api.Cred{root, owner, group}, []api.Cred{other}},
		{0o1777, []api.Cred{root, owner, group, other}, nil},
		{0o057, []api.Cred{root, other}, []api.Cred{owner, group}},
	} {
		b.open(d, x.mode, 5, 6)
		for _, c := range x.may {
			for _, q := range all(c, 9, f, d, "n") {
				b.tried(q, b.ought(q))
			}
		}
		for _, c := range x.mayNot {
			for _, q := range all(c, 9, f, d, "n") {
				b.is(q, answer{e: access})
			}
		}
	}
}

// P17.1, P17.2: bits beyond the nine of a mode permit nothing, also in modes that no node has by the document.
func TestOtherBits(t *testing.T) {
	b := opened(t)
	d, f := b.dir(1, "d"), b.file(1, "f", "data")
	for _, mode := range []int{512, 1024, 0o7000, 1 << 32, 1<<32 | 0o666, math.MinInt, math.MaxInt &^ 0o333, -1, -1 &^ 0o111, 0o4755, math.MaxInt, -0o1000} {
		b.open(d, mode, 5, 6)
		for _, c := range users {
			for _, q := range all(c, 9, f, d, "n") {
				switch {
				case c.UID == 0 || mode == -1 || mode == math.MaxInt || mode == 0o4755 && c.UID == 5:
					b.tried(q, b.ought(q))
				default:
					b.is(q, answer{e: access})
				}
			}
		}
	}
}

// P17.1, P17.2: permissions are those of the directory alone: not of what is above it, nor of the node that gets a name, nor of
// what covers the directory, or is covered by it.
func TestPermissionsAlone(t *testing.T) {
	b := opened(t)
	c := api.Cred{UID: 7, GID: 8}
	closed := b.put(1, "closed", api.Node{Kind: dirKind})
	open := b.put(closed, "open", api.Node{Kind: dirKind, Mode: 0o003})
	secret := b.put(open, "secret", api.Node{Kind: fileKind, Data: "none of theirs"})
	for _, q := range all(c, 9, secret, open, "n") {
		b.tried(q, b.ought(q))
	}
	for _, q := range all(c, 9, secret, closed, "n") {
		b.is(q, answer{e: access})
	}
	over := b.cover(open)
	for _, q := range all(c, 9, secret, over, "n") {
		b.is(q, answer{e: access})
	}
	for _, q := range all(c, 9, secret, open, "n") {
		b.tried(q, b.ought(q))
	}
	b.open(over, 0o777, 0, 0)
	b.open(open, 0, 0, 0)
	on := b.file(over, "on", "it")
	for _, q := range all(c, 9, on, over, "n") {
		b.tried(q, b.ought(q))
	}
	for _, q := range all(c, 9, secret, open, "n") {
		b.is(q, answer{e: access})
	}
}

// P17.2: a mode is between 0 and 1023, and each of these is the node's.
func TestMode(t *testing.T) {
	b := opened(t)
	d := b.dir(1, "d")
	for _, mode := range []int{-1, -2, -512, -1023, -1024, 1024, 1025, 2047, 2048, 0o4755, 1 << 31, 1 << 32, 1<<32 + 1, 1<<32 + 0o755, math.MinInt, math.MinInt + 1, math.MaxInt} {
		b.is(mkdir(root, 7, d, "n", mode), answer{e: wrong})
		b.is(mkfile(root, 7, d, "n", mode, "data"), answer{e: wrong})
	}
	for mode := range 1024 {
		for _, q := range []call{mkdir(users[0], 7, d, "n", mode), mkfile(users[0], 7, d, "n", mode, "data")} {
			no := b.p.last + 1
			b.is(q, answer{no: no})
			if n, _ := b.w.Get(no); n.Mode != mode || n.Links != 1 {
				t.Errorf("the node is %+v, want the mode %d", n, mode)
			}
			b.kill(no)
			b.is(touch(d, 7), answer{})
		}
	}
}

// P17.2: a file's data is whatever there is, up to 2^20 bytes, and takes a block for each 512 bytes, or part of them.
func TestData(t *testing.T) {
	var bytes strings.Builder
	for k := range 256 {
		bytes.WriteByte(byte(k))
	}
	b := opened(t)
	d := b.dir(1, "d")
	used := b.w.Use(1).Blocks
	l := []string{"\x00", "a", "\xff", "\xc3", "日本", "\n", "a\n", "\r\n", "a\x00b", "\xed\xa0\x80", bytes.String()}
	for _, size := range []int{0, 1, 2, 255, 511, 512, 513, 1023, 1024, 1025, 4096, 4097, 65536, 65537, maxFile - 512, maxFile - 1, maxFile} {
		l = append(l, huge[:size], strings.Repeat(bytes.String(), size/256+1)[:size], strings.Repeat("\x00", size))
	}
	for _, data := range l {
		no := b.p.last + 1
		b.is(mkfile(users[3], 7, d, "n", 0o600, data), answer{no: no})
		if n, _ := b.w.Get(no); n.Data != data || n.Links != 1 || n.Mode != 0o600 {
			t.Errorf("the file has the data %.50q (%d), want %.50q (%d)", n.Data, len(n.Data), data, len(data))
		}
		if got, want := b.w.Use(1).Blocks, used+(len(data)+511)/512; got != want {
			t.Errorf("%d bytes: %d blocks are used, want %d", len(data), got, want)
		}
		b.kill(no)
		b.is(touch(d, 7), answer{})
	}
	for _, data := range []string{huge, huge + "x", strings.Repeat("\x00", maxFile+1), strings.Repeat("é", maxFile/2) + "x", huge + huge, strings.Repeat("x", 20<<20)} {
		b.is(mkfile(root, 7, d, "n", 0o600, data), answer{e: tooMuch})
	}
	b.is(mkfile(root, 7, d, "n", 0o600, strings.Repeat("é", maxFile/2)), answer{no: b.p.last + 1})
}

// P17.2: a link's text has a byte or more, up to 4096, none of which is a zero byte; it takes no block.
func TestText(t *testing.T) {
	b := opened(t)
	d := b.dir(1, "d")
	used := b.w.Use(1)
	for _, text := range []string{
		"a", "/", ".", "..", "/a/b", "a//b/", " ", "\n", "\xff", "\x01", "\xc3", "日本", "\\0", "%00", "0", "none at all", huge[:255], huge[:256], huge[:511], huge[:512],
		huge[:513], huge[:4095], huge[:4096], strings.Repeat("a/", 2048), strings.Repeat("é", 2048), strings.Repeat("\xff", 4096), "/" + huge[:4095],
	} {
		no := b.p.last + 1
		b.is(symlink(users[3], 7, d, "n", text), answer{no: no})
		n, _ := b.w.Get(no)
		if n.Data != text || n.Mode != 0o777 || n.Kind != 3 {
			t.Errorf("the link is %.300s, want the text %.50q and the mode 0777", fmt.Sprintf("%+v", n), text)
		}
		if got := b.w.Use(1); got.Blocks != used.Blocks || got.Nodes != used.Nodes+1 {
			t.Errorf("%v is used, and before %v", got, used)
		}
		b.kill(no)
		b.is(touch(d, 7), answer{})
	}
	for _, text := range []string{"", "\x00", "\x00a", "a\x00", "a\x00b", "\x00\x00", "/a/\x00", huge[:4095] + "\x00", huge[:4096] + "\x00", "\x00" + huge[:4096], huge[:2000] + "\x00" + huge[:3000], huge + "\x00"} {
		b.is(symlink(root, 7, d, "n", text), answer{e: wrong})
	}
	for _, text := range []string{huge[:4097], huge[:4098], huge[:5000], huge[:8192], huge, strings.Repeat("é", 2049), strings.Repeat("a/", 2048) + "a", strings.Repeat("\xff", 4097)} {
		b.is(symlink(root, 7, d, "n", text), answer{e: tooLong})
	}
}

// P17.2: each field of what is made, and of its directory behind the call, with values that differ from each other; all other
// nodes are as they were.
func TestMade(t *testing.T) {
	b := opened(t)
	d := b.put(1, "d", api.Node{Kind: dirKind, Mode: 0o1077, UID: 11, GID: 12, Mtime: 13, Ctime: 14, Data: "-", Ents: []api.Ent{{Name: "m", No: 1}}})
	n := b.p.nodes[d]
	n.Links = 15
	b.set(n)
	c := api.Cred{UID: 21, GID: 22}
	get := func(no int) api.Node {
		n, ok := b.w.Get(no)
		if !ok {
			t.Fatalf("there is no node %d", no)
		}
		return n
	}
	for _, x := range []struct {
		q    call
		want api.Node
	}{
		{mkdir(c, 31, d, "n", 0o1234), api.Node{No: 3, Dev: 1, Kind: 1, Mode: 0o1234, UID: 21, GID: 22, Mtime: 31, Ctime: 31, Links: 1, Up: 2}},
		{mkfile(c, 32, d, "b", 0o567, "bytes"), api.Node{No: 4, Dev: 1, Kind: 2, Mode: 0o567, UID: 21, GID: 22, Mtime: 32, Ctime: 32, Links: 1, Data: "bytes"}},
		{symlink(c, 33, d, "z", "text"), api.Node{No: 5, Dev: 1, Kind: 3, Mode: 0o777, UID: 21, GID: 22, Mtime: 33, Ctime: 33, Links: 1, Data: "text"}},
	} {
		b.is(x.q, answer{no: x.want.No})
		if got := get(x.want.No); !alike(got, x.want) {
			t.Errorf("%v made %+v, want %+v", x.q, got, x.want)
		}
		n.Mtime, n.Ctime = x.q.now, x.q.now
		n.Ents = sorted(append(n.Ents, api.Ent{Name: x.q.name, No: x.want.No}))
		if got := get(d); !alike(got, n) {
			t.Errorf("behind %v the directory is %+v, want %+v", x.q, got, n)
		}
	}
	want := []api.Ent{{Name: "b", No: 4}, {Name: "m", No: 1}, {Name: "n", No: 3}, {Name: "z", No: 5}}
	if got := get(d).Ents; !slices.Equal(got, want) {
		t.Errorf("the entries are %v, want %v", got, want)
	}
	b.is(hard(c, 34, 4, 3, "hard"), answer{e: access})
	b.open(3, 0o1234, 21, 22)
	b.is(hard(c, 34, 4, 3, "hard"), answer{e: access})
	b.open(3, 0o1334, 21, 22)
	b.is(hard(c, 34, 4, 3, "hard"), answer{})
	if got, want := get(4), (api.Node{No: 4, Dev: 1, Kind: 2, Mode: 0o567, UID: 21, GID: 22, Mtime: 32, Ctime: 34, Links: 2, Data: "bytes"}); !alike(got, want) {
		t.Errorf("behind Hard the file is %+v, want %+v", got, want)
	}
	in := api.Node{No: 3, Dev: 1, Kind: 1, Mode: 0o1334, UID: 21, GID: 22, Mtime: 34, Ctime: 34, Links: 1, Up: 2, Ents: []api.Ent{{Name: "hard", No: 4}}}
	if got := get(3); !alike(got, in) {
		t.Errorf("behind Hard the directory is %+v, want %+v", got, in)
	}
	if got := get(d); !alike(got, n) {
		t.Errorf("behind Hard another directory is %+v, want %+v", got, n)
	}
}

// P17.2: owners, groups and times are taken as they are handed in, each by itself, whatever they are.
func TestTaken(t *testing.T) {
	b := opened(t)
	d, f := b.dir(1, "d"), b.file(1, "f", "")
	values := []int{0, 1, 2, 1000, 65535, 1<<31 - 1, 1 << 31, 1<<31 + 1, 1<<32 + 1, 253402300799, 253402300800, -1, -9, math.MinInt, math.MaxInt}
	for _, v := range values {
		for _, now := range values {
			for _, c := range []api.Cred{{UID: v, GID: 3}, {UID: 3, GID: v}, {UID: v, GID: v}} {
				for _, q := range all(c, now, f, d, "n") {
					b.tried(q, b.ought(q))
				}
			}
			b.is(touch(d, now), answer{})
			n, _ := b.w.Get(d)
			if n.Mtime != now || n.Ctime != now {
				t.Errorf("behind Touch at %d the directory is %+v", now, n)
			}
		}
	}
}

// P17.2: the directory's times become now also if now is before what they were, or the same.
func TestEarlier(t *testing.T) {
	b := opened(t)
	f := b.file(1, "f", "")
	for i, now := range []int{100, 50, 50, 0, -3, 7} {
		for k, q := range []call{mkdir(root, now, 1, "", 0), mkfile(root, now, 1, "", 0, ""), symlink(root, now, 1, "", "x"), hard(root, now, f, 1, "")} {
			q.name = fmt.Sprint("n", i, k)
			b.is(q, b.ought(q))
			top, _ := b.w.Get(1)
			if top.Mtime != now || top.Ctime != now {
				t.Errorf("%v: the top is %+v", q, top)
			}
		}
		n, _ := b.w.Get(f)
		if n.Mtime != 0 || n.Ctime != now || n.Links != 2+i {
			t.Errorf("at %d the file is %+v", now, n)
		}
	}
}

// P17.2: a new name gets its place, byte by byte: the first, the last and each in the middle of its directory.
func TestPosition(t *testing.T) {
	names := []string{"\x01", "\n", " ", "-", "...", ".a", "0", "10", "9", "A", "B", "a", "a ", "a.", "aa", "ab", "b", "~", "\x7f", "\xc3\xa9", "e\u0301", "\xff", "\xff\xff", strings.Repeat("n", 255)}
	slices.Sort(names)
	for i, s := range names {
		for k, what := range []string{"Dir", "File", "Sym", "Hard"} {
			b := opened(t)
			d, f := b.dir(1, "d"), b.file(1, "f", "")
			n := b.p.nodes[d]
			for j, other := range names {
				if j != i {
					n.Ents = append(n.Ents, api.Ent{Name: other, No: 100 + j})
				}
			}
			b.set(n)
			q := all(root, 7, f, d, s)[1+k]
			if q.what != what {
				t.Fatal("a fault of this test")
			}
			no := b.ought(q).no
			b.is(q, b.ought(q))
			if what == "Hard" {
				no = f
			}
			got, _ := b.w.Get(d)
			for j, other := range names {
				want := api.Ent{Name: other, No: 100 + j}
				if j == i {
					want.No = no
				}
				if len(got.Ents) != len(names) || got.Ents[j] != want {
					t.Fatalf("%v: the entries are %v, want %v at %d", q, got.Ents, want, j)
				}
			}
			for _, q := range all(root, 8, f, d, s)[1:] {
				b.is(q, answer{e: exists})
			}
		}
	}
}

// P17.2: a name exists by the very same bytes only, also if its node went.
func TestExists(t *testing.T) {
	b := opened(t)
	d := b.dir(1, "d")
	x := b.file(d, "ab", "")
	b.dir(d, "b")
	b.link(d, "c", "ab")
	for _, s := range []string{"ab", "b", "c"} {
		for _, q := range all(root, 7, x, d, s)[1:] {
			b.is(q, answer{e: exists})
		}
	}
	for _, s := range []string{"a", "abc", "AB", "ab ", "aB", "B", "bb", "b.", "cc", "d"} {
		for _, q := range all(root, 7, x, d, s) {
			b.tried(q, b.ought(q))
		}
	}
	// The same name in another directory is another one.
	for _, q := range all(root, 7, x, 1, "ab") {
		b.tried(q, b.ought(q))
	}
	y := b.file(1, "y", "")
	b.kill(x)
	for _, q := range all(root, 7, y, d, "ab")[1:] {
		b.is(q, answer{e: exists})
	}
	b.is(touch(d, 8, api.Ent{Name: "b", No: 4}), answer{})
	for _, q := range all(root, 7, y, d, "ab") {
		b.tried(q, b.ought(q))
	}
	// Whatever the number of the entry is.
	for _, no := range []int{1, 2, d, y, y + 1, 65535, 65536, 65537, 9 * 65536, 1 << 31, 1 << 32, 1<<32 + 1, math.MaxInt} {
		b.is(touch(d, 9, api.Ent{Name: "ab", No: no}), answer{})
		for _, q := range all(root, 7, y, d, "ab")[1:] {
			b.is(q, answer{e: exists})
		}
	}
}

// P17.2: what is made is on the mount of its directory: the top's, a mount's, and that of a directory that a mount covers.
func TestMounts(t *testing.T) {
	b := opened(t)
	where := func(no int, path string) {
		t.Helper()
		if got, ok := b.w.Where(no); got != path || !ok {
			t.Errorf("Where(%d) = %q, %v, want %q", no, got, ok, path)
		}
	}
	d := 1
	path := ""
	for k := range maxMounts - 1 {
		s := fmt.Sprint("d", k)
		no := b.p.last + 1
		b.is(mkdir(root, 7, d, s, 0o700), answer{no: no})
		path += "/" + s
		where(no, path)
		over := b.cover(no)
		where(over, path)
		// In the root.
		x := b.p.last + 1
		b.is(mkdir(root, 8, over, "x", 0o700), answer{no: x})
		where(x, path+"/x")
		b.is(mkfile(root, 8, x, "f", 0o700, "data"), answer{no: x + 1})
		b.is(symlink(root, 8, over, "l", "x"), answer{no: x + 2})
		b.is(hard(root, 8, x+1, over, "g"), answer{})
		for _, made := range []int{x, x + 1, x + 2} {
			if n, _ := b.w.Get(made); n.Dev != k+2 {
				t.Errorf("node %d is on mount %d, want %d", made, n.Dev, k+2)
			}
		}
		if n, _ := b.w.Get(x); n.Up != over {
			t.Errorf("above %d is %d, want %d", x, n.Up, over)
		}
		// In the directory that is covered: it is asked by its number, and so nothing leads to the root.
		y := b.p.last + 1
		b.is(mkdir(root, 9, no, "x", 0o700), answer{no: y})
		b.is(mkfile(root, 9, no, "f", 0o700, "data"), answer{no: y + 1})
		b.is(symlink(root, 9, no, "l", "x"), answer{no: y + 2})
		b.is(hard(root, 9, y+1, no, "g"), answer{})
		for _, made := range []int{y, y + 1, y + 2} {
			if n, _ := b.w.Get(made); n.Dev != k+1 {
				t.Errorf("node %d is on mount %d, want %d", made, n.Dev, k+1)
			}
		}
		if n, _ := b.w.Get(y); n.Up != no {
			t.Errorf("above %d is %d, want %d", y, n.Up, no)
		}
		b.is(place(root, no, "q"), answer{node: b.p.nodes[no]})
		b.is(place(root, over, "q"), answer{node: b.p.nodes[over]})
		b.is(hard(root, 9, y+1, over, "h"), answer{e: cross})
		b.is(hard(root, 9, x+1, no, "h"), answer{e: cross})
		d = over
	}
	if b.w.Devs() != maxMounts {
		t.Errorf("there are %d mounts", b.w.Devs())
	}
}

// P17.2: where a mount has no free node, no free block, or neither, mount.Make's errors are answered, and nothing changes.
func TestFull(t *testing.T) {
	for _, x := range []struct {
		blocks, nodes int
		// What comes of a directory, of files of 0, 1, 512 and 513 bytes, and of a link.
		want [6]api.Errno
	}{
		{0, 0, [6]api.Errno{noNodes, noNodes, noNodes, noNodes, noNodes, noNodes}},
		{1, 0, [6]api.Errno{noNodes, noNodes, noNodes, noNodes, noNodes, noNodes}},
		{9, 0, [6]api.Errno{noNodes, noNodes, noNodes, noNodes, noNodes, noNodes}},
		{0, 1, [6]api.Errno{noSpace, accepted, noSpace, noSpace, noSpace, accepted}},
		{1, 1, [6]api.Errno{accepted, accepted, accepted, accepted, noSpace, accepted}},
		{2, 1, [6]api.Errno{}},
		{0, 9, [6]api.Errno{noSpace, accepted, noSpace, noSpace, noSpace, accepted}},
		{1, 9, [6]api.Errno{accepted, accepted, accepted, accepted, noSpace, accepted}},
		{9, 9, [6]api.Errno{}},
	} {
		// On mount 1, and on another one; the other mount has or hasn't room, and that changes nothing.
		for _, roomy := range []bool{false, true} {
			b := limited(t, 4+x.blocks, 5+x.nodes)
			d, f := b.dir(1, "d"), b.file(1, "f", "data")
			b.link(1, "l", "f")
			m := b.dir(1, "m")
			room := 0
			if roomy {
				room = 9
			}
			over := b.covered(m, 1+room, 1+room)
			b.full(d, f, x.want)

			b = limited(t, 2+room, 2+room)
			m = b.dir(1, "m")
			over = b.covered(m, 3+x.blocks, 4+x.nodes)
			d, f = b.dir(over, "d"), b.file(over, "f", "data")
			b.link(d, "l", "f")
			b.full(d, f, x.want)
		}
	}
}

// full makes something of each sort in a directory, and a name for a file, which takes no room.
func (b *both) full(d, f int, want [6]api.Errno) {
	b.Helper()
	for i, q := range []call{
		mkdir(root, 7, d, "n", 0o700), mkfile(root, 7, d, "n", 0o700, ""), mkfile(root, 7, d, "n", 0o700, "x"), mkfile(root, 7, d, "n", 0o700, huge[:512]),
		mkfile(root, 7, d, "n", 0o700, huge[:513]), symlink(root, 7, d, "n", "text"),
	} {
		if want[i] != accepted {
			before := told(b.w)
			b.is(q, answer{e: want[i]})
			if after := told(b.w); after != before {
				b.Errorf("%v changed the world from\n%s\nto\n%s", q, before, after)
			}
			continue
		}
		b.tried(q, b.ought(q))
	}
	b.tried(hard(root, 7, f, d, "n"), answer{})
	b.is(place(root, d, "n"), answer{node: b.p.nodes[d]})
}

// P17.2: a mount is filled to its last node and to its last block by calls alone, and is full then.
func TestFilled(t *testing.T) {
	b := limited(t, 10, 8)
	for k, want := range []answer{{no: 2}, {no: 3}, {no: 4}, {no: 5}, {no: 6}, {no: 7}, {no: 8}, {e: noNodes}, {e: noNodes}} {
		b.is(mkdir(root, k, 1, fmt.Sprint("d", k), 0o700), want)
	}
	b.is(symlink(root, 9, 2, "l", "x"), answer{e: noNodes})
	b.is(mkfile(root, 9, 2, "f", 0, ""), answer{e: noNodes})
	b.kill(8)
	b.is(mkfile(root, 9, 2, "f", 0, huge[:3*512+1]), answer{e: noSpace})
	// A call that fails takes no number: the next node has the one behind the last.
	b.is(mkfile(root, 9, 2, "f", 0, huge[:3*512]), answer{no: 9})
	b.is(hard(root, 9, 9, 2, "g"), answer{})
	b.kill(7)
	b.is(mkdir(root, 9, 2, "h", 0), answer{no: 10})
	b.kill(6)
	b.kill(5)
	b.is(symlink(root, 9, 2, "l", "x"), answer{no: 11})
	b.is(mkfile(root, 9, 2, "m", 0, huge[:1025]), answer{e: noSpace})
	b.is(mkfile(root, 9, 2, "m", 0, huge[:1024]), answer{no: 12})
	if got, want := b.w.Use(1), (api.Space{Blocks: 10, Nodes: 8, MostBlocks: 10, MostNodes: 8}); got != want {
		t.Errorf("%v is used, want %v", got, want)
	}
	b.kill(3)
	b.is(mkfile(root, 9, 2, "o", 0, huge[:513]), answer{e: noSpace})
	b.is(mkfile(root, 9, 2, "o", 0, huge[:512]), answer{no: 13})
}

// P17.2: Hard of files, of links and of what is none of the three, in its own directory and in others.
func TestHard(t *testing.T) {
	for _, kind := range append([]int{fileKind, linkKind}, others...) {
		b := opened(t)
		d, e := b.dir(1, "d"), b.dir(1, "e")
		x := b.put(d, "m", api.Node{Kind: kind, Mode: 0o753, UID: 11, GID: 12, Mtime: 13, Ctime: 14, Data: "data", Up: 15})
		want := b.p.nodes[x]
		for k, q := range []call{
			hard(root, 21, x, d, "z"), hard(users[3], 22, x, d, "a"), hard(users[0], 23, x, e, "m"), hard(root, 24, x, 1, "m"), hard(root, 25, x, e, strings.Repeat("n", 255)),
		} {
			used := b.w.Use(1)
			b.is(q, answer{})
			want.Ctime, want.Links = q.now, 2+k
			if got, _ := b.w.Get(x); !alike(got, want) {
				t.Errorf("behind %v the node is %+v, want %+v", q, got, want)
			}
			dir, _ := b.w.Get(q.dir)
			if dir.Mtime != q.now || dir.Ctime != q.now || ents.Find(dir.Ents, q.name) != x {
				t.Errorf("behind %v the directory is %+v", q, dir)
			}
			if got := b.w.Use(1); got != used {
				t.Errorf("%v used %v, before it %v", q, got, used)
			}
			b.is(q, answer{e: exists})
		}
	}
}

// P17.2: Hard of a directory is ErrPerm, whichever it is, for user 0 too.
func TestHardDir(t *testing.T) {
	b := hut(t)
	for _, no := range []int{1, 2, 5, 7, 9, 11, 15} {
		for _, dir := range []int{1, 2, 5, 7, 9, 11, 15} {
			for _, s := range []string{"n", "a", "f", "x", "m", "d"} {
				b.is(hard(root, 7, no, dir, s), answer{e: refused})
			}
		}
	}
}

// P17.2: a node has up to 1000 names, in one directory and in many; the one behind the thousandth is ErrLinks.
func TestThousand(t *testing.T) {
	b := opened(t)
	d, e := b.dir(1, "d"), b.dir(1, "e")
	b.is(mkfile(root, 1, d, "f", 0o600, "data"), answer{no: 4})
	b.is(symlink(root, 1, d, "l", "f"), answer{no: 5})
	for k := 2; k <= 1000; k++ {
		for _, x := range []int{4, 5} {
			b.is(hard(users[3], k, x, []int{d, e, 1}[k%2], fmt.Sprint("n", x, "-", k)), answer{})
			if n, _ := b.w.Get(x); n.Links != k || n.Ctime != k || n.Mtime != 1 {
				t.Fatalf("the name number %d: %+v", k, n)
			}
		}
	}
	for _, x := range []int{4, 5} {
		for _, dir := range []int{d, e, 1} {
			for _, s := range []string{"n", "o"} {
				b.is(hard(root, 2000, x, dir, s), answer{e: tooMany})
			}
		}
		b.is(hard(root, 2000, x, d, "f"), answer{e: exists})
		b.is(hard(users[3], 2000, x, 1, "n"), answer{e: access})
	}
	// A name that goes makes room for another one.
	n := b.p.nodes[4]
	n.Links--
	b.set(n)
	b.is(hard(root, 2001, 4, 1, "n"), answer{})
	b.is(hard(root, 2002, 4, 1, "o"), answer{e: tooMany})
	// The limit is each node's own.
	b.is(mkfile(root, 2003, 1, "p", 0, ""), answer{no: 6})
	b.is(hard(root, 2004, 6, 1, "o"), answer{})
	if top, _ := b.w.Get(d); len(top.Ents) < 1000 || !ents.Check(top.Ents) {
		t.Errorf("the directory has %d entries", len(top.Ents))
	}
}

// P17.2: the number of names is the node's own, whatever entries there are.
func TestLinks(t *testing.T) {
	b := opened(t)
	f := b.file(1, "f", "")
	for k := range 1100 {
		b.name(1, fmt.Sprint("o", k), f)
	}
	b.is(hard(root, 7, f, 1, "n"), answer{})
	for _, links := range []int{1, 2, 500, 998, 999} {
		n := b.p.nodes[f]
		n.Links = links
		b.set(n)
		b.tried(hard(root, 7, f, 1, "o"), answer{})
		n.Links = 1000
		b.set(n)
		b.is(hard(root, 7, f, 1, "o"), answer{e: tooMany})
	}
}

// P17.2: Hard from one mount to another is ErrCross, whatever the mounts are, and within each it is not.
func TestCross(t *testing.T) {
	b := opened(t)
	dirs := []int{1}
	for k := range maxMounts - 1 {
		dirs = append(dirs, b.cover(b.dir(1, fmt.Sprint("m", k))))
	}
	var files []int
	for _, d := range dirs {
		b.open(d, 0o777, 0, 0)
		files = append(files, b.file(d, "f", "data"))
	}
	for i, d := range dirs {
		below := b.dir(d, "below")
		for j, f := range files {
			for _, dir := range []int{d, below} {
				want := answer{e: cross}
				if i == j {
					want = answer{}
				}
				b.tried(hard(users[3], 7, f, dir, "n"), want)
			}
			b.is(hard(root, 7, f, d, "f"), answer{e: exists})
		}
	}
}

// P17.1: Touch sets the entries and both times of a directory, and nothing else, to whatever they are.
func TestTouch(t *testing.T) {
	b := opened(t)
	d := b.make(api.Node{Dev: 1, Kind: dirKind, Mode: 0o1753, UID: 15, GID: 16, Mtime: 17, Ctime: 18, Links: 19, Up: 20, Data: "data", Ents: []api.Ent{{Name: "a", No: 22}}})
	var many []api.Ent
	for k := range 20000 {
		many = append(many, api.Ent{Name: fmt.Sprintf("%05d", k), No: 1 + k})
	}
	want := b.p.nodes[d]
	for now, l := range [][]api.Ent{
		{}, nil, {{Name: "a", No: 1}}, {{Name: "a", No: 22}}, {{Name: "a", No: 1}, {Name: "b", No: 9999}}, many[:300], {{Name: "b", No: 2}}, many, nil, many[7:9], {},
	} {
		b.is(touch(d, 100-now, l...), answer{})
		want.Ents, want.Mtime, want.Ctime = l, 100-now, 100-now
		if got, _ := b.w.Get(d); !alike(got, want) {
			t.Errorf("behind Touch the directory is %+v, want %+v", got, want)
		}
		b.is(place(root, d, "n"), answer{node: want})
	}
	// The top, the root of a mount, and what it covers.
	c := b.dir(1, "c")
	over := b.cover(c)
	for i, no := range []int{1, c, over} {
		b.is(touch(no, 70+i, api.Ent{Name: "x", No: c}), answer{})
		b.is(touch(no, 80+i), answer{})
	}
}

// P17.1: Touch of what is no directory has no directory to change: it leaves the node, and all others, as they are.
func TestTouchOthers(t *testing.T) {
	b := opened(t)
	for _, kind := range append([]int{fileKind, linkKind}, others...) {
		no := b.make(api.Node{Dev: 1, Kind: kind, Mode: 0o777, Mtime: 5, Ctime: 6, Data: "data"})
		b.is(touch(no, 7, api.Ent{Name: "a", No: 1}), answer{})
		b.is(touch(no, 8), answer{})
		if n, _ := b.w.Get(no); len(n.Ents) != 0 || n.Mtime != 5 || n.Ctime != 6 {
			t.Errorf("behind Touch the node of kind %d is %+v", kind, n)
		}
	}
	for _, no := range nowhere {
		b.is(touch(no, 7, api.Ent{Name: "a", No: 1}), answer{})
	}
}

// LANGUAGE 7, P17.1: a list that Touch was given is not the world's: neither a change to it changes the world, nor does a call
// change what is in it, or behind its end.
func TestTouchApart(t *testing.T) {
	for _, many := range []int{1, 2, 3, 7, 8, 100} {
		b := opened(t)
		d, e, g := b.dir(1, "d"), b.dir(1, "e"), b.dir(1, "g")
		f := b.file(1, "f", "")
		var l []api.Ent
		for k := range many + 3 {
			l = append(l, api.Ent{Name: fmt.Sprintf("m%04d", k), No: 10 + k})
		}
		whole := slices.Clone(l)
		for _, no := range []int{d, e, g} {
			bring.Touch(b.w, no, 7, l[:many])
			b.p.touch(no, 7, whole[:many])
		}
		b.same()
		for i, s := range []string{"a", "m0000x", "z"} {
			b.is(mkfile(root, 8, d, s, 0, ""), answer{no: b.p.last + 1})
			b.is(hard(root, 8, f, e, s), answer{})
			if !slices.Equal(l, whole) {
				t.Fatalf("call %d changed a list that Touch was given: %v", i, l)
			}
		}
		for i := range l {
			l[i] = api.Ent{Name: "other", No: 99}
		}
		b.same()
		for _, no := range []int{d, e, g} {
			b.is(place(root, no, "n"), answer{node: b.p.nodes[no]})
		}
	}
}

// LANGUAGE 7, P17.1: a directory that Place answered is not the world's: neither a change to it changes the world or another
// answer, nor does a later call change what was answered.
func TestPlaceApart(t *testing.T) {
	for _, many := range []int{1, 2, 3, 4, 5, 8, 9, 100} {
		b := opened(t)
		f := b.file(1, "f", "")
		for k := range many {
			b.is(mkfile(root, 7, 1, fmt.Sprint("g", k), 0, ""), answer{no: 3 + k})
		}
		first, e := bring.Place(b.w, root, 1, "n")
		second, is := bring.Place(b.w, root, 1, "n")
		want := first
		want.Ents = slices.Clone(first.Ents)
		if len(first.Ents) != many+1 || e != api.OK || is != api.OK {
			t.Fatal(first, e, is)
		}
		for i := range first.Ents[:cap(first.Ents)] {
			first.Ents[:cap(first.Ents)][i] = api.Ent{Name: "other", No: 98}
		}
		first.Mode, first.Mtime = 0, 99
		if !alike(second, want) {
			t.Errorf("a change to one answer changed another one: %+v, want %+v", second, want)
		}
		b.same()
		b.is(mkdir(root, 8, 1, "a", 0), answer{no: b.p.last + 1})
		b.is(hard(root, 9, f, 1, "z"), answer{})
		b.is(touch(1, 10, api.Ent{Name: "f", No: f}), answer{})
		if !alike(second, want) {
			t.Errorf("a later call changed an answer: %+v, want %+v", second, want)
		}
		if first.Ents[0].No != 98 {
			t.Errorf("a later call changed an answer: %+v", first)
		}
	}
}

// scene is a world, and a call of which some things are wrong, each by itself or all at once.
type scene struct {
	b *both
	w *mount.World
	q call
}

// staged is a scene of a function: on a mount with the root 3 are a directory 4, a file 5 and a link 6.
func staged(t *testing.T, what string, wrongs []string) scene {
	t.Helper()
	on := func(s string) bool { return slices.Contains(wrongs, s) }
	b := opened(t)
	mostBlocks, mostNodes := 100, 100
	if on("no node left") {
		mostNodes = 4
	}
	if on("no block left") {
		mostBlocks = 3
	}
	over := b.covered(b.dir(1, "m"), mostBlocks, mostNodes)
	d := b.dir(over, "d")
	f := b.file(d, "f", "data")
	b.link(d, "l", "f")
	other := b.file(1, "other", "data")
	q := call{what: what, c: users[3], now: 50, dir: d, name: "n", mode: 0o640, data: "data", no: f}
	if on("mode") {
		q.mode = 1024
	}
	if on("data") {
		q.data = huge
	}
	if on("text") {
		q.data = huge[:4097]
	}
	if on("zero") {
		q.data = q.data + "\x00"
	}
	if on("name") {
		q.name = "a/"
	}
	if on("long name") {
		q.name += huge[:maxName]
	}
	if on("closed") {
		b.open(d, 0o775, 5, 6)
	}
	if on("there") {
		b.name(d, q.name, f)
	}
	if on("cross") {
		q.no = other
	}
	if on("links") {
		n := b.p.nodes[q.no]
		n.Links = 1000
		b.set(n)
	}
	if on("directory") {
		n := b.p.nodes[q.no]
		n.Kind = dirKind
		b.p.nodes[q.no] = n
		b.w.Set(n)
	}
	if on("no node") {
		q.no = 99
	}
	if on("no directory") {
		n := b.p.nodes[d]
		n.Kind = linkKind
		b.p.nodes[d] = n
		b.w.Set(n)
	}
	if on("nothing") {
		q.dir = 98
	}
	s := scene{b, b.w, q}
	if on("world") {
		s.w = nil
	}
	return s
}

// P17.1, P17.2, R2: of all things that are wrong the first in the chapter's order is told, for every choice of them.
func TestOrder(t *testing.T) {
	type fault struct {
		what string
		e    api.Errno
	}
	ofPlace := []fault{{"world", wrong}, {"nothing", none}, {"no directory", notDir}, {"name", wrong}, {"long name", tooLong}, {"closed", access}}
	ofMake := []fault{{"there", exists}, {"no node left", noNodes}}
	for what, l := range map[string][]fault{
		"Place": ofPlace,
		"Dir":   slices.Concat([]fault{{"mode", wrong}}, ofPlace, ofMake, []fault{{"no block left", noSpace}}),
		"File":  slices.Concat([]fault{{"mode", wrong}, {"data", tooMuch}}, ofPlace, ofMake, []fault{{"no block left", noSpace}}),
		"Sym":   slices.Concat([]fault{{"zero", wrong}, {"text", tooLong}}, ofPlace, ofMake),
		"Hard":  slices.Concat(ofPlace, []fault{{"no node", none}, {"directory", refused}, {"there", exists}, {"cross", cross}, {"links", tooMany}}),
	} {
		for choice := range 1 << len(l) {
			var wrongs []string
			want := accepted
			for i, x := range l {
				if choice>>i&1 == 1 {
					if want == accepted {
						want = x.e
					}
					wrongs = append(wrongs, x.what)
				}
			}
			s := staged(t, what, wrongs)
			before := told(s.b.w)
			got := s.q.do(s.w)
			if want == accepted {
				if got.e != accepted {
					t.Errorf("%v = %v", s.q, got)
				}
				continue
			}
			if !got.equal(answer{e: want}) {
				t.Errorf("with the faults %q %v = %v, want error %d", wrongs, s.q, got, want)
			}
			if told(s.b.w) != before {
				t.Errorf("with the faults %q %v = %v changed the world", wrongs, s.q, got)
			}
		}
	}
}

// P17.2: what is no fault of a function's isn't one: no room for Hard, no block for Sym, and none for Place and Touch.
func TestNoFault(t *testing.T) {
	for what, wrongs := range map[string][]string{
		"Place": {"mode", "data", "there", "no node left", "no block left", "no node", "directory", "cross", "links"},
		"Touch": {"mode", "data", "name", "long name", "closed", "there", "no node left", "no block left", "no node", "directory", "cross", "links"},
		"Dir":   {"data", "no node", "directory", "cross", "links"},
		"File":  {"no node", "directory", "cross", "links", "zero"},
		"Sym":   {"mode", "no block left", "no node", "directory", "cross", "links"},
		"Hard":  {"mode", "data", "text", "zero", "no node left", "no block left"},
	} {
		for choice := range 1 << len(wrongs) {
			var l []string
			for i, s := range wrongs {
				if choice>>i&1 == 1 {
					l = append(l, s)
				}
			}
			s := staged(t, what, l)
			if what == "Dir" {
				// It isn't handed any data.
				s.q.data = ""
			}
			if a := s.b.drawn(s.q); a.e != accepted {
				t.Errorf("with %q %v = %v", l, s.q, a)
			}
		}
	}
}

// P17.2: nodes with great numbers are like others: numbers rise beyond MaxNodes where nodes go and others come.
func TestGreatNumbers(t *testing.T) {
	b := opened(t)
	for k := range 8*65536 + 100 {
		no, e := bring.File(b.w, root, k, 1, "f", 0, "")
		if no != k+2 || e != accepted || !b.w.Kill(no) {
			t.Fatalf("File = %d, %d", no, e)
		}
		bring.Touch(b.w, 1, k, nil)
	}
	b.p.last = 8*65536 + 101
	b.p.touch(1, 8*65536+99, nil)
	b.same()
	d := b.p.last + 1
	b.is(mkdir(root, 7, 1, "d", 0o777), answer{no: d})
	b.is(mkfile(users[3], 7, d, "f", 0, "data"), answer{no: d + 1})
	b.is(symlink(users[3], 7, d, "l", "f"), answer{no: d + 2})
	b.is(hard(users[3], 7, d+1, d, "g"), answer{})
	b.is(hard(users[3], 7, d+1, d, "f"), answer{e: exists})
	b.is(mkfile(users[3], 7, d, "l", 0, ""), answer{e: exists})
	b.is(hard(users[3], 7, d+3, d, "h"), answer{e: none})
	over := b.cover(d)
	b.is(mkdir(root, 7, over, "d", 0o777), answer{no: d + 4})
	b.is(hard(root, 7, d+1, over, "f"), answer{e: cross})
	b.is(place(root, d, "x"), answer{node: b.p.nodes[d]})
}

// P17.2: as many directories below each other, and as many names in one, as there is room for.
func TestDeepAndWide(t *testing.T) {
	b := opened(t)
	at, path := 1, ""
	for k := range 500 {
		no := b.p.last + 1
		b.is(mkdir(root, k, at, "d", 0o700), answer{no: no})
		path += "/d"
		if got, ok := b.w.Where(no); got != path || !ok || b.w.Above(no) != at {
			t.Fatalf("Where(%d) = %q, %v", no, got, ok)
		}
		at = no
	}
	r := rand.New(rand.NewPCG(17, 9))
	for k, i := range r.Perm(1500) {
		b.is(mkfile(root, k, at, fmt.Sprintf("%04d", i), 0, ""), answer{no: b.p.last + 1})
	}
	n, _ := b.w.Get(at)
	for i, x := range n.Ents {
		if x.Name != fmt.Sprintf("%04d", i) {
			t.Fatalf("entry %d is %v", i, x)
		}
	}
}

// pick draws one of several.
func pick[T any](r *rand.Rand, l ...T) T { return l[r.IntN(len(l))] }

// names are those that drawn worlds have.
var names = []string{"a", "b", "c", "d", "ab", "b.~1~", "é", "\xff"}

// bad are texts that are no names.
var bad = []string{"", ".", "..", "a/b", "a\x00", strings.Repeat("a", 256)}

// someone draws a user.
func someone(r *rand.Rand) api.Cred { return api.Cred{UID: r.IntN(3), GID: r.IntN(3)} }

// data draws a node's bytes.
func data(r *rand.Rand) string {
	s := make([]byte, r.IntN(pick(r, 2, 20, 2000)))
	for i := range s {
		s[i] = byte(r.IntN(256))
	}
	return string(s)
}

// text draws a link's text, or what is none.
func text(r *rand.Rand) string {
	switch r.IntN(20) {
	case 0:
		return ""
	case 1:
		return "a\x00" + data(r)
	case 2:
		return huge[:4090+r.IntN(12)]
	}
	return pick(r, "a", "/a", "../b", "é", "\xff", "a/b/c")
}

// dressed draws what a node has beside its kind, its number, its mount and its directory.
func dressed(r *rand.Rand, n api.Node) api.Node {
	n.Mode, n.UID, n.GID = pick(r, 0o777, 0o333, r.IntN(1024), r.IntN(1024)), r.IntN(3), r.IntN(3)
	n.Mtime, n.Ctime, n.Links = r.IntN(1000), r.IntN(1000), pick(r, 1, 2, 3, 998, 999, 1000)
	return n
}

// some draws a number: of a node, and at times of one that went, or that isn't there yet.
func some(b *both, r *rand.Rand) int {
	switch r.IntN(16) {
	case 0:
		return r.IntN(b.p.last+4) - 1
	case 1:
		return pick(r, nowhere...)
	}
	return pick(r, slices.Sorted(maps.Keys(b.p.nodes))...)
}

// someDir draws a number like some, mostly of a directory.
func someDir(b *both, r *rand.Rand) int {
	for range 4 {
		if no := some(b, r); b.p.nodes[no].Kind == dirKind {
			return no
		}
	}
	return some(b, r)
}

// isRoot tells whether a number is that of a mount's root.
func (b *both) isRoot(no int) bool {
	return slices.Contains(append(slices.Collect(maps.Values(b.p.over)), 1), no)
}

// step draws a change of a world other than by calls of bring.
func step(b *both, r *rand.Rand) {
	b.Helper()
	no := some(b, r)
	n, ok := b.p.nodes[no]
	switch i := r.IntN(20); {
	case !ok:
	case i < 3 && n.Kind == dirKind:
		if s := b.p.use(n.Dev); s.Nodes < s.MostNodes {
			b.put(no, pick(r, names...), dressed(r, api.Node{Kind: pick(r, 0, 4, -1), Data: "data"}))
		}
	case i < 6 && n.Kind == dirKind:
		b.drawn(touch(no, r.IntN(1000), slices.DeleteFunc(slices.Clone(n.Ents), func(api.Ent) bool { return r.IntN(2) == 0 })...))
	case i < 12:
		b.set(dressed(r, n))
	case i < 15 && !b.isRoot(no):
		b.kill(no)
	case i < 18 && n.Kind == dirKind && !b.isRoot(no) && b.p.over[no] == 0 && len(b.p.over) < maxMounts-1:
		b.covered(no, pick(r, 1, 4, 10, 40), pick(r, 1, 4, 10, 40))
	}
}

// draw draws a call.
func draw(b *both, r *rand.Rand) call {
	q := call{what: pick(r, "Place", "Touch", "Dir", "Dir", "File", "File", "Sym", "Sym", "Hard", "Hard", "Hard"), c: someone(r), now: r.IntN(1000), dir: someDir(b, r), no: some(b, r)}
	q.name, q.mode = pick(r, names...), r.IntN(1024)
	if r.IntN(3) == 0 {
		q.name += pick(r, names...)
	}
	if r.IntN(20) == 0 {
		q.name = pick(r, bad...)
	}
	if r.IntN(20) == 0 {
		q.mode = pick(r, -1, 1024, math.MinInt, math.MaxInt, r.Int())
	}
	switch q.what {
	case "Touch":
		q.list = b.p.nodes[q.dir].Ents
		if len(q.list) > 0 {
			q.list = q.list[r.IntN(len(q.list)):]
		}
	case "File":
		q.data = data(r)
		if r.IntN(20) == 0 {
			q.data = huge[:maxFile+r.IntN(2)]
		}
	case "Sym":
		q.data = text(r)
	}
	return q
}

// world draws a world.
func world(t *testing.T, r *rand.Rand) *both {
	t.Helper()
	b := limited(t, pick(r, 3, 20, 100), pick(r, 3, 20, 100))
	for range 5 + r.IntN(40) {
		b.drawn(draw(b, r))
		step(b, r)
	}
	return b
}

// P17.1, P17.2: long sequences of drawn worlds, changes and calls, held against a plain world.
func TestDrawn(t *testing.T) {
	r := rand.New(rand.NewPCG(17, 1))
	found := map[string]int{}
	mounted := map[string]int{}
	for range 250 {
		b := world(t, r)
		for range 250 {
			q := draw(b, r)
			a := b.drawn(q)
			found[fmt.Sprint(q.what, " ", a.e)]++
			if a.e == accepted && b.p.nodes[q.dir].Dev > 1 {
				mounted[q.what]++
			}
			if r.IntN(3) == 0 {
				step(b, r)
			}
		}
	}
	sorts := []string{"Touch 0"}
	for what, l := range map[string][]api.Errno{
		"Place": {accepted, none, notDir, wrong, tooLong, access},
		"Dir":   {accepted, wrong, none, notDir, tooLong, access, exists, noNodes, noSpace},
		"File":  {accepted, wrong, tooMuch, none, notDir, tooLong, access, exists, noNodes, noSpace},
		"Sym":   {accepted, wrong, tooLong, none, notDir, access, exists, noNodes},
		"Hard":  {accepted, none, notDir, wrong, tooLong, access, refused, exists, cross, tooMany},
	} {
		for _, e := range l {
			sorts = append(sorts, fmt.Sprint(what, " ", e))
		}
	}
	for _, s := range sorts {
		if found[s] < 30 {
			t.Errorf("only %d answers are of the sort %q", found[s], s)
		}
	}
	for _, what := range []string{"Place", "Touch", "Dir", "File", "Sym", "Hard"} {
		if mounted[what] < 100 {
			t.Errorf("only %d calls of %s succeeded on another mount", mounted[what], what)
		}
	}
	if len(found) != len(sorts) {
		t.Errorf("%v", found)
	}
}

// P17.2: worlds that came about by calls alone, and mounts, are as they ought to be: entries rise, each node has as many names
// as its Links tell, each directory has its path, and the space in use is that of the nodes.
func TestGrown(t *testing.T) {
	r := rand.New(rand.NewPCG(17, 2))
	for range 60 {
		b := opened(t)
		for range 150 {
			q := draw(b, r)
			q.c = pick(r, root, root, q.c)
			if q.what == "Touch" {
				continue
			}
			b.drawn(q)
			if d := someDir(b, r); r.IntN(30) == 0 && b.p.nodes[d].Kind == dirKind && !b.isRoot(d) && b.p.over[d] == 0 && len(b.p.over) < maxMounts-1 {
				b.covered(d, 100, 100)
			}
		}
		b.whole()
	}
}

// whole holds what follows from the promises for a world that came about by calls alone.
func (b *both) whole() {
	b.Helper()
	count := map[int]int{}
	for n := range b.w.All() {
		if !ents.Check(n.Ents) {
			b.Fatalf("node %d has the entries %v", n.No, n.Ents)
		}
		if n.Kind != dirKind {
			continue
		}
		path, ok := b.w.Where(n.No)
		for _, x := range n.Ents {
			count[x.No]++
			m, _ := b.w.Get(x.No)
			if m.Dev != n.Dev {
				b.Fatalf("node %d is on mount %d, and its name %q on %d", x.No, m.Dev, x.Name, n.Dev)
			}
			below, is := b.w.Where(x.No)
			if want := strings.TrimSuffix(path, "/") + "/" + x.Name; m.Kind == dirKind && (below != want || !is || !ok) {
				b.Fatalf("Where(%d) = %q, %v, want %q", x.No, below, is, want)
			}
		}
	}
	for n := range b.w.All() {
		want := n.Links
		if b.isRoot(n.No) {
			want = 0
		}
		if count[n.No] != want {
			b.Fatalf("node %+v has %d names", n, count[n.No])
		}
	}
}

// R7: a call that answers an error, and Place, leaves a world as it was: also what its mounts have in use, where its directories
// are, and which number comes next.
func TestUnchanged(t *testing.T) {
	r := rand.New(rand.NewPCG(17, 3))
	failed := 0
	for range 40 {
		b := world(t, r)
		for range 60 {
			q := draw(b, r)
			before, planned := told(b.w), b.p.last
			if a := b.drawn(q); a.e == accepted && q.what != "Place" {
				continue
			}
			failed++
			if after := told(b.w); after != before {
				t.Fatalf("%v changed the world from\n%s\nto\n%s", q, before, after)
			}
			if s := b.p.use(1); s.Nodes < s.MostNodes && r.IntN(4) == 0 {
				if no := b.make(api.Node{Dev: 1, Kind: linkKind}); no != planned+1 {
					t.Fatalf("behind %v the next number is %d, want %d", q, no, planned+1)
				}
			}
		}
	}
	if failed < 500 {
		t.Errorf("only %d calls failed", failed)
	}
}

// R5: the same calls on worlds that are the same answer the same, also beside each other and beside other worlds.
func TestAgain(t *testing.T) {
	for seed := range uint64(20) {
		first := rand.New(rand.NewPCG(17, seed))
		a := world(t, first)
		other := world(t, rand.New(rand.NewPCG(18, seed)))
		second := rand.New(rand.NewPCG(17, seed))
		b := world(t, second)
		if told(a.w) != told(b.w) {
			t.Fatal("the same calls made another world")
		}
		for range 100 {
			q, again := draw(a, first), draw(b, second)
			if x, y := a.drawn(q), b.drawn(again); !x.equal(y) {
				t.Fatalf("%v = %v, and then %v", q, x, y)
			}
			other.drawn(draw(other, first))
			draw(other, second)
			if told(a.w) != told(b.w) {
				t.Fatalf("%v made another world", q)
			}
			// So that both draw alike from here on, whatever the other world drew.
			next := first.Uint64()
			first, second = rand.New(rand.NewPCG(next, 1)), rand.New(rand.NewPCG(next, 1))
		}
	}
}

// R1: each call ends without a panic, also where entries and fields are none by the document.
func TestAnyhow(t *testing.T) {
	for _, l := range [][]api.Ent{
		{{Name: "b", No: 2}, {Name: "a", No: 1}}, {{Name: "a", No: 1}, {Name: "a", No: 2}}, {{Name: "", No: 0}, {Name: "..", No: 2}, {Name: "a/b", No: 2}},
		{{Name: "c", No: 3}, {Name: "b", No: 2}, {Name: "a", No: 1}}, {{Name: "a", No: math.MinInt}, {Name: "b", No: math.MaxInt}, {Name: "c", No: 0}},
	} {
		for _, v := range []int{math.MinInt, -1, 0, 3, 9, 1001, math.MaxInt} {
			b := opened(t)
			b.cover(b.dir(1, "d"))
			f := b.file(1, "f", "")
			for no := 1; no <= 4; no++ {
				n := b.p.nodes[no]
				n.Dev, n.Links, n.Up, n.Mode = v, v, v, v
				b.w.Set(n)
				bring.Touch(b.w, no, v, l)
			}
			for _, c := range users {
				for _, dir := range []int{1, 2, 3, 4, v} {
					for _, s := range append(bad, "a", "b", "c", "d") {
						for _, q := range append(all(c, v, f, dir, s), all(c, v, v, dir, s)...) {
							if a := q.do(b.w); a.e != accepted && !a.equal(answer{e: a.e}) {
								t.Errorf("%v = %v", q, a)
							}
						}
					}
				}
			}
		}
	}
}

// P17.2: a call doesn't take much longer than the length of its directory, and than that of what it is handed.
func TestTime(t *testing.T) {
	begun := time.Now()
	b := opened(t)
	d := b.dir(1, "d")
	var l []api.Ent
	for k := range 300000 {
		l = append(l, api.Ent{Name: fmt.Sprintf("%06d", k), No: k + 10})
	}
	bring.Touch(b.w, d, 7, l)
	for k := range 10 {
		for _, q := range all(root, 7, 4, d, fmt.Sprint("15", k)) {
			q.name += q.what
			if q.what == "Hard" && k == 0 {
				q.no = b.file(1, "f", "")
			}
			if got := q.do(b.w); got.e != accepted && q.what != "Hard" {
				t.Errorf("%v = error %d", q, got.e)
			}
		}
		long := strings.Repeat("0", 20<<20)
		for _, q := range append(all(root, 7, 4, d, long), symlink(root, 7, d, "s", long), mkfile(root, 7, d, "s", 0, long), symlink(root, 7, d, "s", long+"\x00")) {
			if got := q.do(b.w); got.e == accepted {
				t.Errorf("%v = error %d", q, got.e)
			}
		}
	}
	if n, _ := b.w.Get(d); len(n.Ents) < 300030 || !ents.Check(n.Ents) {
		t.Errorf("the directory has %d entries", len(n.Ents))
	}
	if took := time.Since(begun); took > time.Minute {
		t.Errorf("it took %v", took)
	}
}

// P17.1, P17.2, beyond the tests above: a drawn world, with a name, data, a mode and numbers that are handed in.
func FuzzBring(f *testing.F) {
	for _, s := range append(slices.Clone(bad), "a", "ab", "é", "\xff", "0123456789") {
		f.Add(s, "data", uint64(1), 0, 0, 1, 1, 7, 0o755)
		f.Add("n", s, uint64(2), 1, 2, 5, 3, -7, 0o1641)
		f.Add(s, s, uint64(3), 0, 2, 2, 2, 1<<40, -1)
	}
	f.Fuzz(func(t *testing.T, s, data string, seed uint64, uid, gid, dir, no, now, mode int) {
		r := rand.New(rand.NewPCG(17, seed))
		b := world(t, r)
		for range 3 {
			for _, at := range []int{dir, someDir(b, r), 1} {
				for _, c := range []api.Cred{{UID: uid, GID: gid}, someone(r), root} {
					for _, x := range []int{no, some(b, r)} {
						b.drawn(hard(c, now, x, at, s))
					}
					for _, q := range []call{place(c, at, s), mkdir(c, now, at, s, mode), mkfile(c, now, at, s, mode, data), symlink(c, now, at, s, data)} {
						b.drawn(q)
						q.name = pick(r, names...)
						q.mode = r.IntN(1024)
						b.drawn(q)
					}
				}
			}
			step(b, r)
		}
	})
}
