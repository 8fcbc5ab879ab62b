package perm_test

import (
	"fmt"
	"io/fs"
	"math"
	"slices"
	"strconv"
	"strings"
	"testing"

	"ragpicker/api"
	"ragpicker/perm"
)

// The document's numbers, written out.
const (
	maxID  = 2147483648
	sticky = 512
	modes  = 1024
)

// ids are numbers of users and groups, most of them at the edges that the document names.
var ids = []int{
	math.MinInt, math.MinInt + 1, -maxID - 1, -maxID, -1001, -5, -2, -1, 0, 1, 2, 5, 6, 999, 1000, 65535,
	maxID/2 - 1, maxID / 2, maxID - 1, maxID, maxID + 1, 2 * maxID, 2*maxID + 1, math.MaxInt - 1, math.MaxInt,
}

// beyond are bits, and many of them at once, that neither a mode nor what is wanted needs to have.
var beyond = []int{
	1024, 2048, 4096, 0o6000, 0o40000, 0o100000, 1 << 31, 1 << 32, 1 << 62, math.MinInt, math.MinInt + 4096, -1024, -2048,
	math.MaxInt - 1023,
}

// kinds are those of nodes, and others: no permission hangs on them.
var kinds = []int{api.Dir, api.File, api.Link, api.Hard, 0}

// digits is the bits of a number, the least significant one first.
func digits(n int) string {
	l := []byte(fmt.Sprintf("%064b", uint64(n)))
	slices.Reverse(l)
	return string(l)
}

// set tells whether a number has the bit at a place from its end on.
func set(n, at int) bool { return digits(n)[at] == '1' }

// wantMay is May told by the digits of the numbers.
func wantMay(c api.Cred, uid, gid, mode, want int) bool {
	if c.UID == 0 {
		return true
	}
	first := 0
	if c.GID == gid {
		first = 3
	}
	if c.UID == uid {
		first = 6
	}
	asked, given := digits(want)[:3], digits(mode)[first:first+3]
	for i := range 3 {
		if asked[i] == '1' && given[i] == '0' {
			return false
		}
	}
	return true
}

// wantOwns is Owns, by the document's words.
func wantOwns(c api.Cred, n api.Node) bool { return slices.Contains([]int{0, n.UID}, c.UID) }

// wantFree is Free, by the document's words.
func wantFree(c api.Cred, dir, n api.Node) bool {
	if set(dir.Mode, 9) {
		return slices.Contains([]int{0, dir.UID, n.UID}, c.UID)
	}
	return true
}

// wantText is Text told by package fs, which knows the letters of the nine bits, but puts the sticky one elsewhere.
func wantText(kind, mode int) string {
	first := map[int]string{1: "d", 2: "-", 3: "l"}[kind]
	if first == "" {
		first = "?"
	}
	s := fs.FileMode(uint64(mode) % sticky).String()[1:]
	if set(mode, 9) {
		last := map[byte]string{'x': "t", '-': "T"}[s[8]]
		s = s[:8] + last
	}
	return first + s
}

// nodeOf is a node with an owner, a group and a mode; its other fields hold numbers that lead astray whoever takes one of them.
func nodeOf(uid, gid, mode int) api.Node {
	return api.Node{
		No: uid + 1, Dev: gid + 1, Kind: api.Dir, Mode: mode, UID: uid, GID: gid, Mtime: ^mode, Ctime: ^mode + 1, Links: 7, Up: uid + 2,
		Data: "data", Ents: []api.Ent{{Name: "a", No: uid}, {Name: "b", No: gid}},
	}
}

// same tells whether a node is as it was.
func same(a, b api.Node) bool {
	listed := slices.Equal(a.Ents, b.Ents)
	a.Ents, b.Ents = nil, nil
	return listed && fmt.Sprint(a) == fmt.Sprint(b)
}

// asked holds the answers of May and Node against what P10.1 says of them.
func asked(t *testing.T, c api.Cred, uid, gid, mode, want int) {
	t.Helper()
	is := wantMay(c, uid, gid, mode, want)
	if got := perm.May(c, uid, gid, mode, want); got != is {
		t.Errorf("May(%v, %d, %d, %#o, %d) = %v, want %v", c, uid, gid, mode, want, got, is)
	}
	for _, kind := range kinds {
		n := nodeOf(uid, gid, mode)
		n.Kind, n.Links = kind, kind
		if got := perm.Node(c, n, want); got != is {
			t.Errorf("Node(%v, a node of kind %d, of %d and %d with %#o, %d) = %v, want %v", c, kind, uid, gid, mode, want, got, is)
		}
	}
}

// freed holds the answers of Owns and Free against what P10.1 says of them.
func freed(t *testing.T, c api.Cred, dir, n api.Node) {
	t.Helper()
	for _, kind := range kinds {
		n.Kind, n.Links = kind, kind
		if got, is := perm.Owns(c, n), wantOwns(c, n); got != is {
			t.Errorf("Owns(%v, a node of kind %d, of %d) = %v, want %v", c, kind, n.UID, got, is)
		}
		if got, is := perm.Free(c, dir, n), wantFree(c, dir, n); got != is {
			t.Errorf("Free(%v, a directory of %d with %#o, a node of kind %d, of %d with %#o) = %v, want %v",
				c, dir.UID, dir.Mode, kind, n.UID, n.Mode, got, is)
		}
	}
}

// told holds the answer of Text against what P10.2 says of it.
func told(t *testing.T, kind, mode int) {
	t.Helper()
	got := perm.Text(kind, mode)
	if want := wantText(kind, mode); got != want {
		t.Errorf("Text(%d, %#o) = %q, want %q", kind, mode, got, want)
	}
	if len(got) != 10 {
		t.Errorf("Text(%d, %#o) = %q has %d characters, want 10", kind, mode, got, len(got))
	}
}

// askers are users as seen from a node of user 5 and group 6.
var askers = []struct {
	what string
	c    api.Cred
}{
	{"user 0", api.Cred{UID: 0, GID: 0}},
	{"user 0 in the group", api.Cred{UID: 0, GID: 6}},
	{"user 0 of another group", api.Cred{UID: 0, GID: 9}},
	{"the owner", api.Cred{UID: 5, GID: 9}},
	{"the owner in the group", api.Cred{UID: 5, GID: 6}},
	{"the owner in group 0", api.Cred{UID: 5, GID: 0}},
	{"the owner in the group of the owner's number", api.Cred{UID: 5, GID: 5}},
	{"one in the group", api.Cred{UID: 9, GID: 6}},
	{"one in the group, of the group's number", api.Cred{UID: 6, GID: 6}},
	{"another one", api.Cred{UID: 9, GID: 9}},
	{"another one in group 0", api.Cred{UID: 9, GID: 0}},
	{"another one with the numbers swapped", api.Cred{UID: 6, GID: 5}},
	{"another one in the group of the owner's number", api.Cred{UID: 9, GID: 5}},
	{"another one with the group's number", api.Cred{UID: 6, GID: 9}},
	{"nobody", api.Cred{UID: -1, GID: -1}},
	{"the greatest", api.Cred{UID: maxID, GID: maxID}},
	{"one below 0", api.Cred{UID: -5, GID: -6}},
	{"one of the low 32 bits", api.Cred{UID: 1<<32 + 5, GID: 1<<32 + 6}},
	{"one of the low 32 bits of 0", api.Cred{UID: 1 << 32, GID: 1 << 32}},
	{"the least int", api.Cred{UID: math.MinInt, GID: math.MinInt}},
	{"the greatest int", api.Cred{UID: math.MaxInt, GID: math.MaxInt}},
}

// P10.1: Fine, with the edges written down.
func TestFine(t *testing.T) {
	for _, x := range []struct {
		uid, gid int
		want     bool
	}{
		{0, 0, true}, {5, 6, true}, {1000, 1000, true}, {0, maxID, true}, {maxID, 0, true}, {maxID, maxID, true},
		{maxID - 1, 1, true}, {1, maxID - 1, true},
		{-1, 0, false}, {0, -1, false}, {-1, -1, false}, {-1, maxID + 1, false},
		{maxID + 1, 0, false}, {0, maxID + 1, false}, {maxID + 1, maxID + 1, false}, {maxID, maxID + 1, false}, {maxID + 1, maxID, false},
		{math.MinInt, 0, false}, {0, math.MinInt, false}, {math.MinInt, math.MinInt, false},
		{math.MaxInt, 0, false}, {0, math.MaxInt, false}, {math.MaxInt, math.MaxInt, false},
		{math.MinInt, math.MaxInt, false}, {math.MaxInt, math.MinInt, false}, {-5, 5, false}, {5, -5, false},
	} {
		if got := perm.Fine(api.Cred{UID: x.uid, GID: x.gid}); got != x.want {
			t.Errorf("Fine(%d, %d) = %v, want %v", x.uid, x.gid, got, x.want)
		}
	}
}

// P10.1: Fine of all pairs of numbers, each held against the other side of each edge.
func TestFinePairs(t *testing.T) {
	fine := func(id int) bool { return !strings.HasPrefix(strconv.Itoa(id), "-") && uint64(id) < maxID+1 }
	for _, uid := range ids {
		for _, gid := range ids {
			if got, want := perm.Fine(api.Cred{UID: uid, GID: gid}), fine(uid) && fine(gid); got != want {
				t.Errorf("Fine(%d, %d) = %v, want %v", uid, gid, got, want)
			}
		}
	}
	for d := -2000; d <= 2000; d++ {
		if got, want := perm.Fine(api.Cred{UID: d, GID: maxID - d}), d >= 0; got != want {
			t.Errorf("Fine(%d, %d) = %v, want %v", d, maxID-d, got, want)
		}
	}
}

// P10.1: May and Node, with the cases written down.
func TestMay(t *testing.T) {
	for _, x := range []struct {
		c                    api.Cred
		uid, gid, mode, want int
		is                   bool
	}{
		// The owner's bits count for the owner, whatever the others' say.
		{api.Cred{UID: 5, GID: 9}, 5, 6, 0o600, 6, true},
		{api.Cred{UID: 5, GID: 9}, 5, 6, 0o640, 6, true},
		{api.Cred{UID: 5, GID: 9}, 5, 6, 0o640, 1, false},
		{api.Cred{UID: 5, GID: 9}, 5, 6, 0o077, 4, false},
		{api.Cred{UID: 5, GID: 9}, 5, 6, 0o077, 0, true},
		{api.Cred{UID: 5, GID: 9}, 5, 6, 0o500, 6, false},
		// One who is the owner and in the group too has the owner's bits alone.
		{api.Cred{UID: 5, GID: 6}, 5, 6, 0o077, 1, false},
		{api.Cred{UID: 5, GID: 6}, 5, 6, 0o470, 2, false},
		{api.Cred{UID: 5, GID: 6}, 5, 6, 0o700, 7, true},
		// The group's bits count for those in it who aren't the owner.
		{api.Cred{UID: 9, GID: 6}, 5, 6, 0o040, 4, true},
		{api.Cred{UID: 9, GID: 6}, 5, 6, 0o707, 4, false},
		{api.Cred{UID: 9, GID: 6}, 5, 6, 0o070, 7, true},
		{api.Cred{UID: 9, GID: 6}, 5, 6, 0o757, 2, false},
		// The last bits count for all the others.
		{api.Cred{UID: 9, GID: 9}, 5, 6, 0o004, 4, true},
		{api.Cred{UID: 9, GID: 9}, 5, 6, 0o770, 4, false},
		{api.Cred{UID: 9, GID: 9}, 5, 6, 0o007, 7, true},
		{api.Cred{UID: 9, GID: 9}, 5, 6, 0o775, 7, false},
		// A user's number isn't a group's.
		{api.Cred{UID: 6, GID: 5}, 5, 6, 0o770, 4, false},
		{api.Cred{UID: 6, GID: 5}, 5, 6, 0o007, 4, true},
		// User 0 may do everything, and nobody else may because of group 0, or because the node is user 0's.
		{api.Cred{}, 5, 6, 0, 7, true},
		{api.Cred{UID: 0, GID: 9}, 0, 0, 0, 7, true},
		{api.Cred{UID: 5, GID: 0}, 5, 0, 0o077, 4, false},
		{api.Cred{UID: 9, GID: 0}, 0, 6, 0o770, 4, false},
		{api.Cred{UID: 9, GID: 0}, 0, 0, 0o040, 4, true},
		// Who wants nothing may.
		{api.Cred{UID: 9, GID: 9}, 5, 6, 0, 0, true},
		// The bits beyond the three are neither wanted nor of use.
		{api.Cred{UID: 9, GID: 9}, 5, 6, 0, 8, true},
		{api.Cred{UID: 9, GID: 9}, 5, 6, 0, 0o770, true},
		{api.Cred{UID: 9, GID: 9}, 5, 6, 0o770, 0o774, false},
		{api.Cred{UID: 9, GID: 9}, 5, 6, 0, math.MinInt, true},
		{api.Cred{UID: 9, GID: 9}, 5, 6, 0o776, -1, false},
		{api.Cred{UID: 9, GID: 9}, 5, 6, 0o007, -1, true},
		{api.Cred{UID: 9, GID: 9}, 5, 6, 0o003, -4, false},
		{api.Cred{UID: 9, GID: 9}, 5, 6, 0o004, -4, true},
		{api.Cred{UID: 9, GID: 9}, 5, 6, -1, 7, true},
		{api.Cred{UID: 9, GID: 9}, 5, 6, -8, 1, false},
		{api.Cred{UID: 9, GID: 6}, 5, 6, -8, 7, true},
		{api.Cred{UID: 5, GID: 6}, 5, 6, -512, 1, false},
		{api.Cred{UID: 5, GID: 6}, 5, 6, -64, 7, true},
		{api.Cred{UID: 5, GID: 6}, 5, 6, 0o7000, 1, false},
		{api.Cred{UID: 5, GID: 6}, 5, 6, math.MinInt, 4, false},
		{api.Cred{UID: 5, GID: 6}, 5, 6, math.MaxInt, 7, true},
		// Numbers that nobody may have are held against each other like the rest.
		{api.Cred{UID: -5, GID: -6}, -5, 6, 0o400, 4, true},
		{api.Cred{UID: -5, GID: -6}, 5, -6, 0o040, 4, true},
		{api.Cred{UID: -5, GID: -6}, 5, 6, 0o770, 4, false},
		{api.Cred{UID: maxID + 1, GID: 0}, maxID + 1, 6, 0o200, 2, true},
	} {
		if got := perm.May(x.c, x.uid, x.gid, x.mode, x.want); got != x.is {
			t.Errorf("May(%v, %d, %d, %#o, %d) = %v, want %v", x.c, x.uid, x.gid, x.mode, x.want, got, x.is)
		}
		if got := perm.Node(x.c, nodeOf(x.uid, x.gid, x.mode), x.want); got != x.is {
			t.Errorf("Node(%v, a node of %d and %d with %#o, %d) = %v, want %v", x.c, x.uid, x.gid, x.mode, x.want, got, x.is)
		}
		asked(t, x.c, x.uid, x.gid, x.mode, x.want)
	}
}

// P10.1: May and Node of every combination of what is wanted against every mode, for everybody.
func TestMayAll(t *testing.T) {
	for _, a := range askers {
		t.Run(a.what, func(t *testing.T) {
			for mode := range modes {
				for want := range 8 {
					asked(t, a.c, 5, 6, mode, want)
				}
			}
		})
	}
}

// P10.1: bits beyond those of a mode, and of what is wanted, change no answer.
func TestMayBeyond(t *testing.T) {
	for _, c := range []api.Cred{{UID: 5, GID: 9}, {UID: 5, GID: 6}, {UID: 9, GID: 6}, {UID: 9, GID: 9}, {}} {
		for mode := 0; mode < modes; mode += 3 {
			for _, more := range beyond {
				for want := range 8 {
					is := wantMay(c, 5, 6, mode, want)
					for _, got := range []bool{
						perm.May(c, 5, 6, mode|more, want),
						perm.May(c, 5, 6, mode, want|more),
						perm.May(c, 5, 6, mode, want|8),
						perm.May(c, 5, 6, mode, want|0o770),
						perm.May(c, 5, 6, mode|more, want|more),
						perm.Node(c, nodeOf(5, 6, mode|more), want|more),
					} {
						if got != is {
							t.Fatalf("%v, of mode %#o, wants %d: %v with %#x beside, want %v", c, mode, want, got, uint64(more), is)
						}
					}
				}
			}
		}
	}
}

// P10.1: numbers of all kinds, of the one who asks and of the node.
func TestMayNumbers(t *testing.T) {
	for _, uid := range ids {
		for _, gid := range ids {
			for _, owner := range []int{uid, gid, 0, 5, -uid} {
				for _, group := range []int{gid, uid, 0, 6, -gid} {
					for _, mode := range []int{0o400, 0o040, 0o004, 0o770, 0o707, 0o077} {
						asked(t, api.Cred{UID: uid, GID: gid}, owner, group, mode, api.Read)
					}
				}
			}
		}
	}
}

// P10.1: Owns, with the cases written down.
func TestOwns(t *testing.T) {
	for _, x := range []struct {
		c    api.Cred
		uid  int
		want bool
	}{
		{api.Cred{UID: 5, GID: 9}, 5, true},
		{api.Cred{UID: 9, GID: 6}, 5, false},
		{api.Cred{UID: 9, GID: 5}, 5, false},
		{api.Cred{UID: 6, GID: 6}, 5, false},
		{api.Cred{UID: 9, GID: 0}, 5, false},
		{api.Cred{UID: 9, GID: 0}, 0, false},
		{api.Cred{UID: 0, GID: 9}, 5, true},
		{api.Cred{}, 0, true},
		{api.Cred{}, -1, true},
		{api.Cred{UID: -1}, -1, true},
		{api.Cred{UID: -1}, 1, false},
		{api.Cred{UID: maxID}, maxID, true},
		{api.Cred{UID: maxID + 1}, maxID + 1, true},
		{api.Cred{UID: 1 << 32}, 0, false},
		{api.Cred{UID: math.MinInt}, math.MinInt, true},
		{api.Cred{UID: math.MaxInt}, math.MinInt, false},
	} {
		for _, mode := range []int{0, 0o777, 0o1777, -1} {
			if got := perm.Owns(x.c, nodeOf(x.uid, 6, mode)); got != x.want {
				t.Errorf("Owns(%v, a node of %d) = %v, want %v", x.c, x.uid, got, x.want)
			}
		}
	}
}

// P10.1: Free, with the cases written down: a directory of user 3, a node of user 4.
func TestFree(t *testing.T) {
	for _, x := range []struct {
		what      string
		c         api.Cred
		dir, node int
		want      bool
	}{
		{"no sticky bit", api.Cred{UID: 9, GID: 9}, 0o777, 0o777, true},
		{"no bit at all", api.Cred{UID: 9, GID: 9}, 0, 0, true},
		{"all bits but the sticky one", api.Cred{UID: 9, GID: 9}, ^sticky, -1, true},
		{"the sticky bit of the node", api.Cred{UID: 9, GID: 9}, 0o777, 0o1777, true},
		{"bits beside the sticky one", api.Cred{UID: 9, GID: 9}, 0o6777, 0, true},
		{"user 0", api.Cred{UID: 0, GID: 9}, 0o1777, 0, true},
		{"the owner of the directory", api.Cred{UID: 3, GID: 9}, 0o1777, 0, true},
		{"the owner of the node", api.Cred{UID: 4, GID: 9}, 0o1777, 0, true},
		{"another one", api.Cred{UID: 9, GID: 9}, 0o1777, 0o777, false},
		{"another one, the sticky bit alone", api.Cred{UID: 9, GID: 9}, sticky, 0o777, false},
		{"another one, all bits", api.Cred{UID: 9, GID: 9}, -1, 0o777, false},
		{"one in the directory's group", api.Cred{UID: 9, GID: 6}, 0o1777, 0o777, false},
		{"one in the node's group", api.Cred{UID: 9, GID: 7}, 0o1777, 0o777, false},
		{"one in group 0", api.Cred{UID: 9, GID: 0}, 0o1777, 0o777, false},
		{"one in the group of the owner's number", api.Cred{UID: 9, GID: 3}, 0o1777, 0o777, false},
		{"nobody", api.Cred{UID: -1, GID: -1}, 0o1777, 0o777, false},
	} {
		if got := perm.Free(x.c, nodeOf(3, 6, x.dir), nodeOf(4, 7, x.node)); got != x.want {
			t.Errorf("%s: Free(%v, %#o, %#o) = %v, want %v", x.what, x.c, x.dir, x.node, got, x.want)
		}
	}
}

// P10.1: Owns and Free of owners and users of all kinds, with the sticky bit and without.
func TestFreeAll(t *testing.T) {
	some := []int{-1, 0, 1, 5, 6, maxID, maxID + 1, 1 << 32, math.MinInt, math.MaxInt}
	for _, uid := range some {
		for _, owner := range some {
			for _, other := range some {
				for _, mode := range []int{0, 0o777, sticky, 0o1777, ^sticky, -1, 1024, math.MinInt, math.MaxInt} {
					for _, gid := range []int{uid, 0, 6} {
						freed(t, api.Cred{UID: uid, GID: gid}, nodeOf(owner, 6, mode), nodeOf(other, gid, ^mode))
					}
				}
			}
		}
	}
	for mode := range modes {
		freed(t, api.Cred{UID: 9, GID: 6}, nodeOf(3, 6, mode), nodeOf(4, 6, modes-1-mode))
		freed(t, api.Cred{UID: 3, GID: 6}, nodeOf(3, 6, mode), nodeOf(4, 6, modes-1-mode))
		freed(t, api.Cred{UID: 4, GID: 6}, nodeOf(3, 6, mode), nodeOf(4, 6, modes-1-mode))
	}
}

// P10.2: Text, with the cases written down.
func TestText(t *testing.T) {
	for _, x := range []struct {
		kind, mode int
		want       string
	}{
		{1, 0o755, "drwxr-xr-x"}, {2, 0o644, "-rw-r--r--"}, {3, 0o777, "lrwxrwxrwx"}, {4, 0o777, "?rwxrwxrwx"},
		{0, 0, "?---------"}, {1, 0, "d---------"}, {2, 0, "----------"}, {3, 0, "l---------"},
		{1, 0o1777, "drwxrwxrwt"}, {1, 0o1776, "drwxrwxrwT"}, {2, 0o1000, "---------T"}, {3, 0o1001, "l--------t"},
		{1, 0o400, "dr--------"}, {1, 0o200, "d-w-------"}, {1, 0o100, "d--x------"},
		{1, 0o040, "d---r-----"}, {1, 0o020, "d----w----"}, {1, 0o010, "d-----x---"},
		{1, 0o004, "d------r--"}, {1, 0o002, "d-------w-"}, {1, 0o001, "d--------x"},
		{5, 0o1770, "?rwxrwx--T"}, {-1, 0o640, "?rw-r-----"}, {math.MinInt, -1, "?rwxrwxrwt"}, {math.MaxInt, -2, "?rwxrwxrwT"},
		{1, math.MinInt, "d---------"}, {1, math.MaxInt, "drwxrwxrwt"}, {1, 0o2000, "d---------"}, {2, 0o7000, "---------T"},
		{2, 0o100644, "-rw-r--r--"}, {1, -512, "d--------T"}, {1, -1024, "d---------"}, {1, -513, "drwxrwxrwx"},
	} {
		if got := perm.Text(x.kind, x.mode); got != x.want {
			t.Errorf("Text(%d, %#o) = %q, want %q", x.kind, x.mode, got, x.want)
		}
		told(t, x.kind, x.mode)
	}
}

// P10.2: each of the modes, with each of the kinds and with what is no kind.
func TestTextAll(t *testing.T) {
	seen := map[string]bool{}
	for mode := range modes {
		for _, kind := range []int{math.MinInt, -3, -2, -1, 0, api.Dir, api.File, api.Link, api.Hard, 5, 1<<32 + 1, 1 << 33, math.MaxInt} {
			told(t, kind, mode)
		}
		seen[perm.Text(api.Dir, mode)] = true
	}
	if len(seen) != modes {
		t.Errorf("%d modes have %d texts", modes, len(seen))
	}
}

// P10.2: bits beyond those of a mode have no letter.
func TestTextBeyond(t *testing.T) {
	for mode := range modes {
		for _, more := range beyond {
			told(t, mode%6, mode|more)
			if got, want := perm.Text(mode%6, mode|more), perm.Text(mode%6, mode); got != want {
				t.Fatalf("Text(%d, %#o) = %q, and with %#x beside %q", mode%6, mode, want, uint64(more), got)
			}
		}
	}
}

// P10.3: who may do several things at once may do each part of them; and who may do all the parts may do all of it.
func TestSubsets(t *testing.T) {
	for _, a := range askers {
		for mode := range modes {
			var may [8]bool
			for want := range 8 {
				may[want] = perm.May(a.c, 5, 6, mode, want)
			}
			for want := range 8 {
				for part := range 8 {
					if part&want == part && may[want] && !may[part] {
						t.Errorf("%s, of mode %#o, has %d at once, but not %d", a.what, mode, want, part)
					}
					if may[want] && may[part] && !may[want|part] {
						t.Errorf("%s, of mode %#o, has %d and %d, but not both at once", a.what, mode, want, part)
					}
				}
			}
			if !may[0] {
				t.Errorf("%s, of mode %#o, doesn't have nothing", a.what, mode)
			}
		}
	}
}

// P10.3: the same of a node, with bits beyond the three in what is wanted.
func TestSubsetsBeyond(t *testing.T) {
	for _, a := range askers {
		for mode := 0; mode < modes; mode += 5 {
			n := nodeOf(5, 6, mode)
			for want := -16; want < 16; want++ {
				if !perm.Node(a.c, n, want) {
					continue
				}
				for part := -16; part < 16; part++ {
					if part&want == part && !perm.Node(a.c, n, part) {
						t.Errorf("%s, of mode %#o, has %d at once, but not %d", a.what, mode, want, part)
					}
				}
			}
		}
	}
}

// R4: a node that is handed in is as it was after each call; R5: a call that is made again answers the same.
func TestKept(t *testing.T) {
	for _, a := range askers {
		for _, mode := range []int{0, 0o640, 0o1777, -1} {
			dir, n := nodeOf(3, 6, mode), nodeOf(5, 6, mode)
			calls := []func() string{
				func() string { return fmt.Sprint(perm.Fine(a.c)) },
				func() string { return fmt.Sprint(perm.May(a.c, 5, 6, mode, 6)) },
				func() string { return fmt.Sprint(perm.Node(a.c, n, 6)) },
				func() string { return fmt.Sprint(perm.Owns(a.c, n)) },
				func() string { return fmt.Sprint(perm.Free(a.c, dir, n)) },
				func() string { return perm.Text(n.Kind, n.Mode) },
			}
			first := make([]string, len(calls))
			for round := range 3 {
				for i, call := range calls {
					got := call()
					if round == 0 {
						first[i] = got
					}
					if got != first[i] {
						t.Errorf("%s, mode %#o, call %d: first %s, then %s", a.what, mode, i, first[i], got)
					}
					if !same(dir, nodeOf(3, 6, mode)) || !same(n, nodeOf(5, 6, mode)) {
						t.Fatalf("%s, mode %#o: call %d changed a node", a.what, mode, i)
					}
				}
			}
		}
	}
}

// P10.1 to P10.3, of numbers of all kinds.
func FuzzPerm(f *testing.F) {
	f.Add(5, 6, 5, 6, 0o640, 6, 1)
	f.Add(0, 9, 5, 6, 0o1777, 7, 2)
	f.Add(9, 6, 5, 6, -1, -1, 3)
	f.Add(-1, maxID+1, -1, maxID+1, math.MinInt, math.MaxInt, -4)
	f.Fuzz(func(t *testing.T, uid, gid, owner, group, mode, want, kind int) {
		c := api.Cred{UID: uid, GID: gid}
		fine := uid >= 0 && gid >= 0 && uid <= maxID && gid <= maxID
		if got := perm.Fine(c); got != fine {
			t.Errorf("Fine(%v) = %v, want %v", c, got, fine)
		}
		asked(t, c, owner, group, mode, want)
		asked(t, c, uid, group, mode, want)
		asked(t, c, owner, gid, mode, want)
		freed(t, c, nodeOf(owner, group, mode), nodeOf(group, owner, want))
		freed(t, c, nodeOf(owner, group, mode), nodeOf(uid, gid, want))
		freed(t, c, nodeOf(uid, gid, mode), nodeOf(owner, group, want))
		told(t, kind, mode)
		if perm.May(c, owner, group, mode, want) && !perm.May(c, owner, group, mode, want&mode) {
			t.Errorf("%v, of %d, %d and %#o, has %d, but not %d", c, owner, group, mode, want, want&mode)
		}
	})
}
