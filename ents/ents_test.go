package ents_test

import (
	"bytes"
	"fmt"
	"maps"
	"math"
	"slices"
	"sort"
	"strings"
	"testing"

	"ragpicker/api"
	"ragpicker/ents"
)

// ent is an entry.
func ent(name string, no int) api.Ent { return api.Ent{Name: name, No: no} }

// list is entries that are told by a name and a number in turn.
func list(told ...any) []api.Ent {
	var l []api.Ent
	for pair := range slices.Chunk(told, 2) {
		l = append(l, ent(pair[0].(string), pair[1].(int)))
	}
	return l
}

// named are entries with these names, in this order, numbered from 1 on.
func named(names ...string) []api.Ent {
	var l []api.Ent
	for i, n := range names {
		l = append(l, ent(n, i+1))
	}
	return l
}

// told is entries for a message, the first ones if there are many.
func told(l []api.Ent) string {
	var parts []string
	for _, x := range l[:min(len(l), 9)] {
		parts = append(parts, fmt.Sprintf("%.40q %d", x.Name, x.No))
	}
	return fmt.Sprintf("{%s} (%d)", strings.Join(parts, ", "), len(l))
}

// mapOf is the numbers of entries by their names.
func mapOf(l []api.Ent) map[string]int {
	m := map[string]int{}
	for _, x := range l {
		m[x.Name] = x.No
	}
	return m
}

// entsOf is the entries of a map in the order of the bytes of its keys.
func entsOf(m map[string]int) []api.Ent {
	names := slices.Collect(maps.Keys(m))
	sort.Slice(names, func(i, j int) bool { return bytes.Compare([]byte(names[i]), []byte(names[j])) < 0 })
	var l []api.Ent
	for _, n := range names {
		l = append(l, ent(n, m[n]))
	}
	return l
}

// wantCheck is Check told by a map: a list is one of entries if it is what a map of it makes.
func wantCheck(l []api.Ent) bool { return slices.Equal(entsOf(mapOf(l)), l) }

// wantName is Name told by the place of the number in the list of all numbers.
func wantName(l []api.Ent, no int) (string, bool) {
	var all []int
	for _, x := range l {
		all = append(all, x.No)
	}
	i := slices.Index(all, no)
	if i < 0 {
		return "", false
	}
	return l[i].Name, true
}

// untouched calls f with l, and with copies of it that have more or less behind their ends, and holds what it was given,
// with what is behind, against what it was.
func untouched(t *testing.T, call string, l []api.Ent, f func(l []api.Ent)) {
	t.Helper()
	for _, room := range []int{0, 1, 3} {
		// Behind the end stand entries with other numbers, so that none of them is mistaken for one of the list.
		behind := list("b", -71, "\xff\xff\xff", -72, "", -73)[:room]
		memory := slices.Concat(l, behind)
		before := slices.Clone(memory)
		f(memory[:len(l)])
		if !slices.Equal(memory, before) {
			t.Errorf("%s of %s, with %d behind its end, leaves %s", call, told(before), room, told(memory))
		}
	}
	// A copy of nil, or of an empty list, may be either of them.
	before := slices.Clone(l)
	f(l)
	if !slices.Equal(l, before) {
		t.Errorf("%s of %s leaves %s", call, told(before), told(l))
	}
}

// apart writes to all the memory of an answer, and holds the list that was handed in against what it was.
func apart(t *testing.T, call string, l, got []api.Ent) {
	t.Helper()
	before := slices.Clone(l)
	for i := range got[:cap(got)] {
		got[:cap(got)][i] = ent("written over", -99)
	}
	if !slices.Equal(l, before) {
		t.Errorf("the answer of %s of %s is not of new memory", call, told(before))
	}
}

// checked holds the answer of Check against what P11.1 says of it.
func checked(t *testing.T, l []api.Ent) {
	t.Helper()
	want := wantCheck(l)
	untouched(t, "Check", l, func(l []api.Ent) {
		if got := ents.Check(l); got != want {
			t.Errorf("Check(%s) = %v, want %v", told(l), got, want)
		}
	})
}

// found holds the answer of Find against what P11.1 says of it.
func found(t *testing.T, l []api.Ent, n string) {
	t.Helper()
	// A map answers 0 for what it doesn't hold, as Find does.
	want := mapOf(l)[n]
	untouched(t, "Find", l, func(l []api.Ent) {
		if got := ents.Find(l, n); got != want {
			t.Errorf("Find(%s, %.60q) = %d, want %d", told(l), n, got, want)
		}
	})
}

// put holds the answer of Put against what P11.1 says of it.
func put(t *testing.T, l []api.Ent, n string, no int) {
	t.Helper()
	m := mapOf(l)
	m[n] = no
	want := entsOf(m)
	untouched(t, "Put", l, func(l []api.Ent) {
		got := ents.Put(l, n, no)
		if !slices.Equal(got, want) {
			t.Errorf("Put(%s, %.60q, %d) = %s, want %s", told(l), n, no, told(got), told(want))
		}
		apart(t, "Put", l, got)
	})
}

// dropped holds the answer of Drop against what P11.1 says of it.
func dropped(t *testing.T, l []api.Ent, n string) {
	t.Helper()
	m := mapOf(l)
	_, there := m[n]
	delete(m, n)
	want := entsOf(m)
	untouched(t, "Drop", l, func(l []api.Ent) {
		got, ok := ents.Drop(l, n)
		if !slices.Equal(got, want) || ok != there {
			t.Errorf("Drop(%s, %.60q) = %s, %v, want %s, %v", told(l), n, told(got), ok, told(want), there)
		}
		apart(t, "Drop", l, got)
	})
}

// naming holds the answer of Name against what P11.1 says of it.
func naming(t *testing.T, l []api.Ent, no int) {
	t.Helper()
	want, there := wantName(l, no)
	untouched(t, "Name", l, func(l []api.Ent) {
		if got, ok := ents.Name(l, no); got != want || ok != there {
			t.Errorf("Name(%s, %d) = %q, %v, want %q, %v", told(l), no, got, ok, want, there)
		}
	})
}

// yielded holds what All yields against what P11.1 says of it: to consumers that stop after each number of entries, to
// one that takes all of them, and to one that ranges again.
func yielded(t *testing.T, l []api.Ent) {
	t.Helper()
	untouched(t, "All", l, func(l []api.Ent) {
		seq := ents.All(l)
		for most := 1; most <= len(l)+1; most++ {
			for again := range 2 {
				var got []api.Ent
				// By a call, because ranging would end the program on one more entry for a consumer that has stopped.
				seq(func(n string, no int) bool {
					got = append(got, ent(n, no))
					return len(got) < most
				})
				if want := l[:min(most, len(l))]; !slices.Equal(got, want) {
					t.Errorf("All(%s), stopped after %d, time %d, yields %s", told(l), most, again, told(got))
				}
			}
		}
	})
}

// all holds the answers of all calls for entries, a name and a number against what P11.1 says of them.
func all(t *testing.T, l []api.Ent, n string, no int) {
	t.Helper()
	checked(t, l)
	found(t, l, n)
	put(t, l, n, no)
	dropped(t, l, n)
	naming(t, l, no)
	yielded(t, l)
}

// names are texts in the order of their bytes, names of nodes or not; several are the beginning of the next one.
func names() []string {
	return []string{
		"", "\x00", "\x00\x00", "\x00a", "\x01", "\n", " ", "%41", ".", "..", "...", "/", "10", "2", "A", "B", "Ba", "Z", "_", "a", "a\x00", "a\x00b", "a ", "a b", "a.2",
		"a.~10~", "a.~1~", "a.~2~", "a/b", "aa", "aaa", "ab", "a\x7f", "a\x80", "aé", "a\xff", "b", "b\x00", "ba", "z", "zz", "\x7f", "\x80", "\xc3", "é", "日", "日本", "\uffff", "😀", "\xfe", "\xff", "\xff\x00", "\xff\xff",
	}
}

// choices are all lists of entries with some of the names, in the order of the names.
func choices(names []string) [][]api.Ent {
	of := [][]api.Ent{nil}
	for i, n := range names {
		for _, l := range of {
			of = append(of, append(l[:len(l):len(l)], ent(n, 10+i)))
		}
	}
	return of
}

// P11.1: Check, with the edges written down.
func TestCheck(t *testing.T) {
	long := strings.Repeat("a", 255)
	for _, x := range []struct {
		l    []api.Ent
		want bool
	}{
		{nil, true}, {[]api.Ent{}, true},
		{named("a"), true}, {named(""), true}, {named("\x00"), true}, {named("\xff"), true}, {named("/"), true},
		{named("a", "b"), true}, {named("b", "a"), false}, {named("a", "a"), false}, {named("", ""), false},
		{named("", "a"), true}, {named("a", ""), false},
		// One is the beginning of the other.
		{named("a", "aa"), true}, {named("aa", "a"), false}, {named("a", "a.2"), true}, {named("a.2", "a"), false}, {named(long, long+"a"), true}, {named(long+"a", long), false},
		// Only the last byte differs, or only the first one.
		{named(long+"a", long+"b"), true}, {named(long+"b", long+"a"), false}, {named("a"+long, "b"+long), true}, {named("b"+long, "a"+long), false},
		// Bytes above 127, and zero bytes.
		{named("a", "é"), true}, {named("é", "a"), false}, {named("z", "\x80"), true}, {named("\x80", "z"), false}, {named("\x7f", "\x80"), true}, {named("\x80", "\xff"), true}, {named("\xff", "\x80"), false}, {named("\xff", "\xff\x00"), true}, {named("\xff\x00", "\xff"), false},
		{named("\xff", "\ufffd"), false}, {named("\ufffd", "\xff"), true}, {named("\uffff", "😀"), true}, {named("😀", "\uffff"), false},
		{named("\x00", "\x01"), true}, {named("", "\x00"), true}, {named("\x00", ""), false}, {named("a", "a\x00"), true}, {named("a\x00", "a"), false}, {named("a\x00", "a\x00"), false}, {named("a\x00b", "a\x00c"), true}, {named("a\x00c", "a\x00b"), false}, {named("a\x00", "aa"), true},
		// By bytes, not by numbers, letters or components.
		{named("10", "9"), true}, {named("9", "10"), false}, {named("a.10", "a.2"), true}, {named("a.2", "a.10"), false}, {named("B", "a"), true}, {named("a", "B"), false}, {named("A", "a"), true}, {named("a", "A"), false}, {named("a.b", "a/b"), true}, {named("a/b", "a.b"), false},
		{named("a ", "a!"), true}, {named(" a", "a"), true}, {named("a", " a"), false},
		// Many, and one place that is wrong.
		{named("a", "b", "c"), true}, {named("a", "c", "b"), false}, {named("b", "a", "c"), false}, {named("c", "b", "a"), false}, {named("b", "c", "a"), false}, {named("c", "a", "b"), false},
		{named("a", "a", "b"), false}, {named("a", "b", "b"), false}, {named("a", "b", "a"), false}, {named("a", "a", "a"), false}, {named("a", "b", "c", "c"), false}, {named("", "", "a"), false}, {named("a", "b", ""), false},
		// Numbers don't count.
		{list("a", 2, "b", 1), true}, {list("a", 1, "b", 1), true}, {list("a", 0, "b", -1), true}, {list("a", math.MinInt), true},
		{list("b", 1, "a", 2), false}, {list("a", 1, "a", 2), false}, {list("a", 2, "a", 1), false}, {list("a", 0, "a", 0), false},
	} {
		if got := ents.Check(x.l); got != x.want {
			t.Errorf("Check(%s) = %v, want %v", told(x.l), got, x.want)
		}
		checked(t, x.l)
	}
}

// P11.1: Check of each pair of names, and of many with two that changed places, or one that comes twice.
func TestCheckPlaces(t *testing.T) {
	of := names()
	for _, x := range of {
		for _, y := range of {
			checked(t, named(x, y))
		}
	}
	l := entsOf(mapOf(named(of...)))
	checked(t, l)
	if !ents.Check(l) {
		t.Errorf("Check(%s) = false", told(l))
	}
	for i := range l {
		for j := range i {
			swapped := slices.Clone(l)
			swapped[i], swapped[j] = swapped[j], swapped[i]
			twice := slices.Clone(l)
			twice[i].Name = twice[j].Name
			for _, x := range [][]api.Ent{swapped, twice, slices.Insert(slices.Clone(l), i, l[j])} {
				checked(t, x)
				if ents.Check(x) {
					t.Errorf("Check(%s) = true: places %d and %d", told(x), j, i)
				}
			}
		}
		checked(t, l[:i])
		checked(t, l[i:])
		checked(t, slices.Delete(slices.Clone(l), i, i+1))
	}
}

// P11.1: Find, Put and Drop, with the edges written down: the name is "b", and Put gives it number 9.
func TestEdit(t *testing.T) {
	for _, x := range []struct {
		what         string
		l, put, drop []api.Ent
		find         int
	}{
		{"no list", nil, list("b", 9), nil, 0},
		{"the empty list", []api.Ent{}, list("b", 9), nil, 0},
		{"alone", list("b", 4), list("b", 9), nil, 4},
		{"before the first", list("c", 5, "d", 6), list("b", 9, "c", 5, "d", 6), list("c", 5, "d", 6), 0},
		{"behind the last", list("A", 2, "a", 3), list("A", 2, "a", 3, "b", 9), list("A", 2, "a", 3), 0},
		{"between two", list("a", 1, "c", 2), list("a", 1, "b", 9, "c", 2), list("a", 1, "c", 2), 0},
		{"the first", list("b", 4, "c", 5, "d", 6), list("b", 9, "c", 5, "d", 6), list("c", 5, "d", 6), 4},
		{"the last", list("A", 2, "a", 3, "b", 4), list("A", 2, "a", 3, "b", 9), list("A", 2, "a", 3), 4},
		{"in the middle", list("a", 3, "b", 4, "c", 5), list("a", 3, "b", 9, "c", 5), list("a", 3, "c", 5), 4},
		{"the beginning of others", list("ba", 3, "bb", 4), list("b", 9, "ba", 3, "bb", 4), list("ba", 3, "bb", 4), 0},
		{"there, with names that begin so", list("", 2, "b", 3, "b\x00", 4, "ba", 5), list("", 2, "b", 9, "b\x00", 4, "ba", 5), list("", 2, "b\x00", 4, "ba", 5), 3},
		{"between numbers that fall", list("a", 8, "c", 1), list("a", 8, "b", 9, "c", 1), list("a", 8, "c", 1), 0},
		{"among names of one node", list("a", 7, "b", 7, "c", 7), list("a", 7, "b", 9, "c", 7), list("a", 7, "c", 7), 7},
		{"there, with the number", list("a", 1, "b", 9), list("a", 1, "b", 9), list("a", 1), 9},
		{"another one has the number", list("a", 9, "c", 1), list("a", 9, "b", 9, "c", 1), list("a", 9, "c", 1), 0},
		{"names of the other case", list("B", 2, "C", 3), list("B", 2, "C", 3, "b", 9), list("B", 2, "C", 3), 0},
		{"bytes above 127", list("\x80", 2, "é", 3), list("b", 9, "\x80", 2, "é", 3), list("\x80", 2, "é", 3), 0},
	} {
		t.Run(x.what, func(t *testing.T) {
			if got := ents.Find(x.l, "b"); got != x.find {
				t.Errorf("Find of %s = %d, want %d", told(x.l), got, x.find)
			}
			if got := ents.Put(x.l, "b", 9); !slices.Equal(got, x.put) {
				t.Errorf("Put of %s = %s, want %s", told(x.l), told(got), told(x.put))
			}
			if got, ok := ents.Drop(x.l, "b"); !slices.Equal(got, x.drop) || ok != (x.find != 0) {
				t.Errorf("Drop of %s = %s, %v, want %s", told(x.l), told(got), ok, told(x.drop))
			}
			all(t, x.l, "b", 9)
		})
	}
	// The chapter's example.
	if got, want := ents.Put(list("a", 1, "c", 2), "b", 3), list("a", 1, "b", 3, "c", 2); !slices.Equal(got, want) {
		t.Errorf("Put({a 1, c 2}, b, 3) = %s", told(got))
	}
}

// P11.1: all calls for each list with some of eight names, and with names of all kinds, those of the list among them.
func TestEach(t *testing.T) {
	for _, l := range choices([]string{"", "\x00", "A", "a", "a\x00", "aa", "b", "\xff"}) {
		checked(t, l)
		yielded(t, l)
		for i, n := range append(names(), strings.Repeat("a", 300)) {
			found(t, l, n)
			put(t, l, n, 100+i)
			dropped(t, l, n)
			naming(t, l, i)
		}
	}
}

// P11.1: a longer list, at every place, and a number that is there or isn't.
func TestLong(t *testing.T) {
	var l []api.Ent
	for i := range 130 {
		l = append(l, ent(fmt.Sprintf("n%03d", 2*i+1), 1+i*37%130))
	}
	checked(t, l)
	yielded(t, l)
	for i := range 262 {
		n := fmt.Sprintf("n%03d", i)
		for _, more := range []string{"", "\x00", "\xff"} {
			found(t, l, n+more)
			put(t, l, n+more, i+1)
			dropped(t, l, n+more)
		}
		naming(t, l, i)
	}
}

// P11.1: entries that come and go one by one, each answer handed to the next call, and the earlier ones left alone.
func TestGrow(t *testing.T) {
	m := map[string]int{}
	var l []api.Ent
	for i := range 1200 {
		n := fmt.Sprint(i * 271 % 401)
		before, kept := l, slices.Clone(l)
		if i%3 == 2 {
			_, there := m[n]
			delete(m, n)
			ok := false
			if l, ok = ents.Drop(l, n); ok != there {
				t.Fatalf("step %d: Drop of %q answers %v", i, n, ok)
			}
		} else {
			m[n] = i + 1
			l = ents.Put(l, n, i+1)
		}
		if want := entsOf(m); !slices.Equal(l, want) {
			t.Fatalf("after %d steps: %s, want %s", i+1, told(l), told(want))
		}
		if !ents.Check(l) || ents.Find(l, n) != m[n] {
			t.Fatalf("after %d steps: Check = %v, Find of %q = %d, want %d", i+1, ents.Check(l), n, ents.Find(l, n), m[n])
		}
		if !slices.Equal(before, kept) {
			t.Fatalf("step %d changed what an earlier one answered", i)
		}
	}
}

// P11.1: as many entries as there may be nodes.
func TestMost(t *testing.T) {
	var l []api.Ent
	for i := range 65536 {
		l = append(l, ent(fmt.Sprintf("%05d", i), 65536-i))
	}
	all(t, l[:1], "00000", 1)
	checked(t, l)
	for _, i := range []int{0, 1, 32767, 32768, 65534, 65535} {
		n := fmt.Sprintf("%05d", i)
		found(t, l, n)
		found(t, l, n+"x")
		put(t, l, n, 70000)
		put(t, l, n+"x", 70000)
		dropped(t, l, n)
		dropped(t, l, n+"x")
		naming(t, l, i)
		naming(t, l, i+1)
	}
	want := 0
	for n, no := range ents.All(l) {
		if n != l[want].Name || no != l[want].No {
			t.Fatalf("All yields %q, %d at place %d", n, no, want)
		}
		want++
	}
	if want != len(l) {
		t.Errorf("All yields %d of %d", want, len(l))
	}
}

// P11.1: Put takes any number and any name, as they are.
func TestPutNumbers(t *testing.T) {
	l := named("a", "c")
	for _, no := range []int{math.MinInt, -1, 0, 1, 2, 3, 1 << 31, 1 << 32, 1<<32 + 1, math.MaxInt} {
		for _, n := range append(names(), strings.Repeat("b", 256), strings.Repeat("b", 5000)) {
			put(t, l, n, no)
			if got := ents.Find(ents.Put(l, n, no), n); no > 0 && got != no {
				t.Errorf("Find of what Put(%q, %d) answers = %d", n, no, got)
			}
		}
	}
}

// P11.1: Name, with the edges written down.
func TestName(t *testing.T) {
	one := list("a", 5)
	linked := list("a", 9, "b", 5, "c", 7, "d", 5, "e", 9, "f", 5)
	for _, x := range []struct {
		l    []api.Ent
		no   int
		want string
		ok   bool
	}{
		{nil, 1, "", false}, {nil, 0, "", false}, {[]api.Ent{}, 1, "", false}, {[]api.Ent{}, 0, "", false},
		{one, 5, "a", true}, {one, 4, "", false}, {one, 6, "", false}, {one, 1, "", false}, {one, -5, "", false},
		{linked, 9, "a", true}, {linked, 5, "b", true}, {linked, 7, "c", true},
		{linked, 1, "", false}, {linked, 2, "", false}, {linked, 6, "", false}, {linked, 8, "", false}, {linked, 10, "", false},
		{linked, 0, "", false}, {linked, -1, "", false}, {linked, -5, "", false}, {linked, math.MinInt, "", false}, {linked, math.MaxInt, "", false}, {linked, 1<<32 + 5, "", false},
		// The name may be empty, and is there all the same.
		{list("", 3), 3, "", true}, {list("", 3, "a", 3), 3, "", true}, {list("", 3, "a", 4), 4, "a", true},
		// The last one, and one that all have.
		{list("a", 1, "b", 2, "c", 3), 3, "c", true}, {list("a", 3, "b", 3, "c", 3), 3, "a", true}, {list("a", math.MaxInt), math.MaxInt, "a", true},
	} {
		if got, ok := ents.Name(x.l, x.no); got != x.want || ok != x.ok {
			t.Errorf("Name(%s, %d) = %q, %v, want %q, %v", told(x.l), x.no, got, ok, x.want, x.ok)
		}
		naming(t, x.l, x.no)
	}
}

// P11.1: All, ranged over: whole, left at once, left after some, left at the last one, and again.
func TestAll(t *testing.T) {
	for n, no := range ents.All(nil) {
		t.Errorf("All of no list yields %q, %d", n, no)
	}
	for n, no := range ents.All([]api.Ent{}) {
		t.Errorf("All of the empty list yields %q, %d", n, no)
	}
	l := list("", 4, "a", 9, "aa", 1, "b", 9, "\xff", 2)
	seq := ents.All(l)
	for most := 1; most <= len(l); most++ {
		var got []api.Ent
		for n, no := range seq {
			if got = append(got, ent(n, no)); len(got) == most {
				break
			}
		}
		if !slices.Equal(got, l[:most]) {
			t.Errorf("All, left after %d, yields %s", most, told(got))
		}
	}
	// One within the other, from one answer: neither moves the other on.
	var got, want []api.Ent
	for n, no := range seq {
		for m, mo := range seq {
			got = append(got, ent(n, no), ent(m, mo))
		}
	}
	for _, x := range l {
		for _, y := range l {
			want = append(want, x, y)
		}
	}
	if !slices.Equal(got, want) {
		t.Errorf("All within All yields %s, want %s", told(got), told(want))
	}
	yielded(t, l)
}

// P11.1, R5: what All answered yields the list that was handed in, also if that is written to afterwards.
func TestAllKept(t *testing.T) {
	l := named("a", "b", "c")
	seq := ents.All(l)
	want := slices.Clone(l)
	for again := range 2 {
		var got []api.Ent
		for n, no := range seq {
			got = append(got, ent(n, no))
			l[len(l)-1] = ent("z", -1)
		}
		if !slices.Equal(got, want) {
			t.Errorf("All, time %d, yields %s, want %s", again, told(got), told(want))
		}
		l[0] = ent("y", -2)
	}
}

// R1, R4: lists that aren't entries. What is answered is promised of Check alone; of the others, that they answer, and
// leave the list as it was.
func TestNoEnts(t *testing.T) {
	of := list("a", 1, "a", 2, "b", 0, "", -1, "\xff", math.MaxInt)
	lists := [][]api.Ent{nil}
	for i := 0; len(lists[i]) < 5; i++ {
		for _, x := range of {
			lists = append(lists, append(slices.Clone(lists[i]), x))
		}
	}
	long := named(names()...)
	slices.Reverse(long)
	for _, l := range append(lists, long, slices.Concat(long, long), slices.Repeat(list("b", 5), 500)) {
		checked(t, l)
		for _, n := range []string{"", "a", "aa", "b", "c", "\xff"} {
			untouched(t, fmt.Sprintf("a call for %q", n), l, func(l []api.Ent) {
				ents.Find(l, n)
				apart(t, "Put", l, ents.Put(l, n, len(n)))
				got, _ := ents.Drop(l, n)
				apart(t, "Drop", l, got)
				for name, no := range ents.All(l) {
					ents.Name(l, no)
					ents.Find(l, name)
				}
				ents.Name(l, len(n)-1)
			})
		}
	}
}

// R5: the same call answers the same, whatever was asked in between.
func TestAgain(t *testing.T) {
	l, other := named("a", "b", "d"), named("b", "x")
	answers := func() string {
		drop, ok := ents.Drop(l, "b")
		name, is := ents.Name(l, 3)
		return fmt.Sprint(ents.Check(l), ents.Find(l, "b"), ents.Put(l, "c", 7), drop, ok, name, is)
	}
	first := answers()
	ents.Put(other, "b", 99)
	ents.Drop(other, "x")
	ents.All(other)
	if got := answers(); got != first {
		t.Errorf("first %s, then %s", first, got)
	}
}

// P11.1, beyond the inputs above.
func FuzzEnts(f *testing.F) {
	for _, s := range []string{"", "a", "a,b", "b,a,a", "a\x00,a,,\xff", "10,9,a.2,a.10,é"} {
		f.Add(s, "a", 1)
		f.Add(s, "", 0)
		f.Add(s, "\xff", math.MinInt)
		f.Add(s, s, math.MaxInt)
	}
	f.Fuzz(func(t *testing.T, s, n string, no int) {
		mixed := named(strings.Split(s, ",")...)
		checked(t, mixed)
		l := entsOf(mapOf(mixed))
		all(t, l, n, no)
		for _, x := range l {
			all(t, l, x.Name, x.No)
			all(t, l, x.Name+n, no)
			all(t, l, x.Name[:len(x.Name)/2], no)
		}
	})
}
