package table_test

import (
	"fmt"
	"math"
	"math/rand/v2"
	"reflect"
	"slices"
	"strings"
	"testing"

	"ragpicker/api"
	"ragpicker/table"
)

// edges are numbers that no node of a small table has, and the ends of the kinds of integers.
var edges = []int{
	math.MinInt, math.MinInt + 1, -1 << 32, math.MinInt32, -65536, -3, -2, -1, 0,
	1 << 16, math.MaxInt32, 1 << 32, 1<<32 + 1, 1<<32 + 2, 1<<32 + 3, math.MaxInt - 1, math.MaxInt,
}

// node is one with something in each field, told from others by k; its number is no.
func node(no, k int) api.Node {
	return api.Node{
		No: no, Dev: 10*k + 1, Kind: k%3 + 1, Mode: 10*k + 2, UID: 10*k + 3, GID: 10*k + 4, Mtime: 10*k + 5, Ctime: 10*k + 6, Links: 10*k + 7, Up: 10*k + 8,
		Data: fmt.Sprint("data ", k), Ents: []api.Ent{{Name: fmt.Sprint("a", k), No: k}, {Name: fmt.Sprint("b", k), No: k + 1}},
	}
}

// own is a copy of a node that shares no memory with it.
func own(n api.Node) api.Node {
	n.Ents = append([]api.Ent(nil), n.Ents...)
	return n
}

// same tells whether nodes have the same in all fields; no entries may be nil or an empty list (R3).
func same(a, b api.Node) bool { return reflect.DeepEqual(own(a), own(b)) }

// sameAll tells whether lists have the same nodes.
func sameAll(a, b []api.Node) bool { return slices.EqualFunc(a, b, same) }

// numbers is those of nodes, for a message; the first ones if there are many.
func numbers(l []api.Node) string {
	var of []int
	for _, n := range l[:min(len(l), 20)] {
		of = append(of, n.No)
	}
	return fmt.Sprintf("%d (%d)", of, len(l))
}

// taken is what All yields to a consumer that stops after most nodes. By a call, because ranging would end the program on
// one more node for a consumer that has stopped.
func taken(x *table.Table, most int) []api.Node {
	var l []api.Node
	x.All()(func(n api.Node) bool {
		l = append(l, n)
		return len(l) < most
	})
	return l
}

// yielded is all that All yields.
func yielded(x *table.Table) []api.Node { return taken(x, math.MaxInt) }

// both is a table, and what ought to be in it: a plain list of the nodes that are there, as they came, and how many came
// in all. Each call of it is one of the table, whose answer is held against what P13.1 says of it.
type both struct {
	*testing.T
	x    *table.Table
	l    []api.Node
	came int
}

// begun is an empty table with an empty list.
func begun(t *testing.T) *both { return &both{T: t, x: table.New()} }

// place is where in the list the node of a number is; -1: it is not there.
func (b *both) place(no int) int {
	for i, n := range b.l {
		if n.No == no {
			return i
		}
	}
	return -1
}

func (b *both) add(n api.Node) {
	b.Helper()
	b.came++
	want := own(n)
	want.No = b.came
	b.l = append(b.l, want)
	if got := b.x.Add(n); got != b.came {
		b.Fatalf("Add of a node with number %d = %d, want %d", n.No, got, b.came)
	}
	b.len()
	b.get(b.came)
}

func (b *both) set(n api.Node) {
	b.Helper()
	i := b.place(n.No)
	if i >= 0 {
		b.l[i] = own(n)
	}
	if got := b.x.Set(n); got != (i >= 0) {
		b.Fatalf("Set of number %d = %v, there are %s", n.No, got, numbers(b.l))
	}
	b.len()
	b.get(n.No)
}

func (b *both) drop(no int) {
	b.Helper()
	i := b.place(no)
	if i >= 0 {
		b.l = slices.Delete(b.l, i, i+1)
	}
	if got := b.x.Drop(no); got != (i >= 0) {
		b.Fatalf("Drop(%d) = %v, there are %s", no, got, numbers(b.l))
	}
	b.len()
	b.get(no)
}

func (b *both) get(no int) {
	b.Helper()
	var want api.Node
	i := b.place(no)
	if i >= 0 {
		want = b.l[i]
	}
	if got, ok := b.x.Get(no); !same(got, want) || ok != (i >= 0) {
		b.Fatalf("Get(%d) = %v, %v, want %v; there are %s", no, got, ok, want, numbers(b.l))
	}
}

func (b *both) len() {
	b.Helper()
	if got := b.x.Len(); got != len(b.l) {
		b.Fatalf("Len() = %d, there are %s", got, numbers(b.l))
	}
}

// all holds what All yields against the list, and each node that came, and those beside them, against what Get tells.
func (b *both) all() {
	b.Helper()
	b.len()
	if got := yielded(b.x); !sameAll(got, b.l) {
		b.Fatalf("All yields %s, there are %s", numbers(got), numbers(b.l))
	}
	for no := -1; no <= b.came+2; no++ {
		b.get(no)
	}
}

// filled is a table to which n nodes came, each with a number of its own in its field.
func filled(t *testing.T, n int) *both {
	t.Helper()
	b := begun(t)
	for k := range n {
		b.add(node(1000-k, k))
	}
	return b
}

// P13.1: what New returns is empty, whatever is asked of it, and the first number is 1 afterwards.
func TestNew(t *testing.T) {
	b := begun(t)
	if b.x == nil {
		t.Fatal("New() is nil")
	}
	b.all()
	for _, no := range append([]int{1, 2, 3}, edges...) {
		b.get(no)
		b.drop(no)
		b.set(node(no, 1))
	}
	b.all()
	b.add(node(7, 1))
	b.all()
}

// P13.1: the chapter's example.
func TestExample(t *testing.T) {
	x := table.New()
	x.Add(api.Node{})
	x.Add(api.Node{})
	x.Drop(2)
	if got := x.Add(api.Node{}); got != 3 {
		t.Errorf("the last Add = %d, want 3", got)
	}
}

// P13.1: the numbers that Add gives start at 1 and rise by one, and the field No of what was handed in doesn't count: also
// one that is taken, was dropped, or is to come.
func TestAdd(t *testing.T) {
	b := begun(t)
	for k, no := range append([]int{0, 1, 1, 2, 3, 9, 100, 5, 4}, edges...) {
		b.add(node(no, k))
		if b.came != k+1 {
			t.Fatal("a fault of this test")
		}
		if n, ok := b.x.Get(k + 1); n.No != k+1 || !ok {
			t.Errorf("Get(%d) after Add of number %d has number %d, %v", k+1, no, n.No, ok)
		}
		b.all()
	}
	b.drop(2)
	b.add(node(2, 50))
	b.add(node(b.came, 51))
	b.add(node(b.came+1, 52))
	b.add(node(b.came+2, 53))
	b.all()
}

// P13.1: Add stores a node as it is, whatever is in it, beside others of the same kind.
func TestAddAny(t *testing.T) {
	b := begun(t)
	least, most := math.MinInt, math.MaxInt
	for range 2 {
		b.add(api.Node{})
		b.add(api.Node{Ents: []api.Ent{}})
		b.add(api.Node{No: least, Dev: least, Kind: least, Mode: least, UID: least, GID: least, Mtime: least, Ctime: least, Links: least, Up: least})
		b.add(api.Node{No: most, Dev: most, Kind: most, Mode: most, UID: most, GID: most, Mtime: most, Ctime: most, Links: most, Up: most})
		b.add(api.Node{Kind: api.File, Data: "\x00\xff\n" + strings.Repeat("a", 1<<20)})
		// Entries that are none of a directory: out of order, twice, and with numbers below 1.
		b.add(api.Node{Kind: api.Link, Ents: []api.Ent{{Name: "b", No: -1}, {Name: "a"}, {Name: "a"}, {Name: "\xff", No: most}}})
		b.all()
	}
	for no := range b.came {
		b.set(api.Node{No: no + 1, Data: "one and the same"})
	}
	b.all()
}

// P13.1: what has been dropped, and when, changes nothing in the numbers that Add gives.
func TestAddAfterDrop(t *testing.T) {
	for n := range 6 {
		for first := 1; first <= n; first++ {
			for second := 1; second <= n; second++ {
				b := filled(t, n)
				b.drop(first)
				b.add(node(first, 20))
				b.drop(second)
				b.add(node(second, 21))
				b.drop(b.came)
				b.add(node(b.came, 22))
				b.all()
			}
		}
		// Every node, from the first one on and from the last one on, and with none in between.
		for _, back := range []bool{false, true} {
			b := filled(t, n)
			for range 3 {
				l := slices.Clone(b.l)
				if back {
					slices.Reverse(l)
				}
				for _, x := range l {
					b.drop(x.No)
				}
				if len(b.l) != 0 {
					t.Fatal("a fault of this test")
				}
				b.all()
				b.add(node(1, 30))
				b.add(node(0, 31))
				b.all()
			}
		}
	}
}

// P13.1: a node that comes and goes, over and over, has another number each time.
func TestComeAndGo(t *testing.T) {
	b := begun(t)
	for k := range 1000 {
		b.add(node(1, k))
		b.drop(b.came)
		b.drop(b.came)
		if b.came != k+1 || b.x.Len() != 0 {
			t.Fatalf("after %d nodes that came and went, %d are there", b.came, b.x.Len())
		}
	}
	b.all()
}

// P13.1: Get, Set and Drop of numbers that no node has, and that they leave everything as it was.
func TestNotThere(t *testing.T) {
	b := filled(t, 6)
	b.drop(2)
	b.drop(6)
	for _, no := range append([]int{2, 6, 7, 8, 9, 60}, edges...) {
		for range 2 {
			b.get(no)
			b.all()
			b.set(node(no, 77))
			b.all()
			b.drop(no)
			b.all()
		}
		if n, ok := b.x.Get(no); !same(n, api.Node{}) || ok {
			t.Errorf("Get(%d) = %v, %v, want the zero node", no, n, ok)
		}
	}
	// A Set gave no number, neither its own nor the next one.
	b.add(node(2, 78))
	if b.came != 7 {
		t.Fatal("a fault of this test")
	}
	b.all()
}

// P13.1: Set replaces the whole node, and only that one.
func TestSet(t *testing.T) {
	for _, n := range []int{1, 2, 3, 12} {
		b := filled(t, n)
		for no := 1; no <= n; no++ {
			for _, x := range []api.Node{
				node(no, 40), {No: no}, node(no, 41), node(no, 41), {No: no, Data: "x"}, {No: no, Ents: []api.Ent{}},
				{No: no, Ents: []api.Ent{{Name: "c", No: 1}}}, {No: no, Kind: api.Dir, Up: no, Links: 1}, node(no, no),
			} {
				b.set(x)
				b.all()
			}
		}
		b.add(node(1, 42))
		b.all()
	}
}

// P13.1: what was set is there until it is set again or dropped, and doesn't come back then.
func TestSetAndDrop(t *testing.T) {
	b := filled(t, 3)
	b.set(node(2, 50))
	b.add(node(2, 51))
	b.all()
	b.drop(2)
	b.set(node(2, 52))
	b.all()
	b.add(node(2, 53))
	b.set(node(5, 54))
	b.drop(5)
	b.drop(5)
	b.set(node(5, 55))
	b.all()
}

// P13.1: Drop takes that node and no other one, once.
func TestDrop(t *testing.T) {
	for n := 1; n <= 12; n++ {
		for no := 1; no <= n; no++ {
			b := filled(t, n)
			b.drop(no)
			b.all()
			b.drop(no)
			b.all()
			b.set(node(no, 60))
			b.get(no)
			b.all()
		}
	}
}

// P13.1: Len after each call.
func TestLen(t *testing.T) {
	x := table.New()
	for _, s := range []struct {
		what string
		do   func()
		want int
	}{
		{"New", func() {}, 0},
		{"Add", func() { x.Add(api.Node{}) }, 1},
		{"Add", func() { x.Add(api.Node{No: 1}) }, 2},
		{"Add", func() { x.Add(api.Node{No: 2}) }, 3},
		{"Get", func() { x.Get(2) }, 3},
		{"Get of one that is not there", func() { x.Get(4) }, 3},
		{"Set", func() { x.Set(api.Node{No: 2}) }, 3},
		{"Set of one that is not there", func() { x.Set(api.Node{No: 4}) }, 3},
		{"Set of number 0", func() { x.Set(api.Node{}) }, 3},
		{"Drop of one that is not there", func() { x.Drop(4) }, 3},
		{"All", func() { x.All() }, 3},
		{"All, ranged over", func() { yielded(x) }, 3},
		{"Drop", func() { x.Drop(2) }, 2},
		{"Drop again", func() { x.Drop(2) }, 2},
		{"Set of the dropped one", func() { x.Set(api.Node{No: 2}) }, 2},
		{"Add", func() { x.Add(api.Node{No: 2}) }, 3},
		{"Drop", func() { x.Drop(1) }, 2},
		{"Drop", func() { x.Drop(4) }, 1},
		{"Drop", func() { x.Drop(3) }, 0},
		{"Drop again", func() { x.Drop(3) }, 0},
		{"Add", func() { x.Add(api.Node{}) }, 1},
	} {
		s.do()
		for range 2 {
			if got := x.Len(); got != s.want {
				t.Errorf("Len() after %s = %d, want %d", s.what, got, s.want)
			}
		}
	}
}

// P13.1: All yields the nodes by their numbers, not by their digits or by their places: after all of n, every second or
// third one, all but every seventh one, the first half or the last half are dropped, and after others have come.
func TestAllOrder(t *testing.T) {
	for _, n := range []int{1, 2, 9, 10, 11, 12, 25, 101, 130, 1100} {
		for what, gone := range []func(no int) bool{
			func(no int) bool { return false },
			func(no int) bool { return true },
			func(no int) bool { return no%2 == 0 },
			func(no int) bool { return no%3 == 1 },
			func(no int) bool { return no%7 != 0 },
			func(no int) bool { return no <= n/2 },
			func(no int) bool { return no > n/2 },
		} {
			x := table.New()
			var want []int
			for no := 1; no <= n; no++ {
				x.Add(api.Node{Data: fmt.Sprint(no)})
			}
			for no := n; no >= 1; no-- {
				if gone(no) {
					x.Drop(no)
					continue
				}
				want = append(want, no)
				x.Set(api.Node{No: no, Data: fmt.Sprint(no)})
			}
			slices.Reverse(want)
			for no := n + 1; no <= n+n/2+2; no++ {
				want = append(want, x.Add(api.Node{Data: fmt.Sprint(no)}))
			}
			for again := range 2 {
				var got []int
				for y := range x.All() {
					if y.Data != fmt.Sprint(y.No) {
						t.Errorf("%d nodes, choice %d: All, time %d, yields number %d with %s", n, what, again, y.No, y.Data)
					}
					got = append(got, y.No)
				}
				if !slices.Equal(got, want) {
					t.Errorf("%d nodes, choice %d: All, time %d, yields %v, want %v", n, what, again, got, want)
				}
			}
		}
	}
}

// P13.1: All to consumers that stop after each number of nodes, to one that takes all, and to ones that range again.
func TestAllStops(t *testing.T) {
	for _, n := range []int{1, 2, 3, 11, 40} {
		b := filled(t, n)
		if n > 3 {
			b.drop(1)
			b.drop(n / 2)
			b.drop(n)
			b.add(node(1, 60))
		}
		for most := 1; most <= len(b.l)+1; most++ {
			for again := range 2 {
				if got, want := taken(b.x, most), b.l[:min(most, len(b.l))]; !sameAll(got, want) {
					t.Errorf("All of %d, stopped after %d, time %d, yields %s", len(b.l), most, again, numbers(got))
				}
			}
			var got []api.Node
			for x := range b.x.All() {
				if got = append(got, x); len(got) == most {
					break
				}
			}
			if want := b.l[:min(most, len(b.l))]; !sameAll(got, want) {
				t.Errorf("All of %d, left after %d, yields %s", len(b.l), most, numbers(got))
			}
		}
		b.all()
	}
}

// P13.1: one answer of All, ranged over again after it was left at each place, and within itself.
func TestAllAgain(t *testing.T) {
	b := filled(t, 12)
	b.drop(3)
	seq := b.x.All()
	for most := range 13 {
		var got []api.Node
		for n := range seq {
			if len(got) == most {
				break
			}
			got = append(got, n)
		}
		if want := b.l[:min(most, len(b.l))]; !sameAll(got, want) {
			t.Errorf("All, left after %d, yields %s", most, numbers(got))
		}
	}
	var got, want []int
	for n := range seq {
		for m := range seq {
			got = append(got, n.No, m.No)
		}
	}
	for _, n := range b.l {
		for _, m := range b.l {
			want = append(want, n.No, m.No)
		}
	}
	if !slices.Equal(got, want) {
		t.Errorf("All within All yields %d, want %d", got, want)
	}
}

// P13.1: All of an empty table: a new one, and one whose nodes were all dropped.
func TestAllEmpty(t *testing.T) {
	b := filled(t, 12)
	for no := range 12 {
		b.drop(no + 1)
	}
	for _, x := range []*table.Table{table.New(), b.x} {
		for range 2 {
			for n := range x.All() {
				t.Errorf("All of an empty table yields number %d", n.No)
			}
		}
	}
}

// R5: what All answers hangs on the calls before it, and on none that comes while it is ranged over, or ahead of that.
func TestAllKept(t *testing.T) {
	b := filled(t, 12)
	want := slices.Clone(b.l)
	seq := b.x.All()
	var got []api.Node
	for n := range seq {
		got = append(got, n)
		b.drop(n.No + 1)
		b.drop(n.No - 5)
		b.set(node(n.No+2, 70))
		b.add(node(n.No, 71))
	}
	if !sameAll(got, want) {
		t.Errorf("All, with changes on the way, yields %s, want %s", numbers(got), numbers(want))
	}
	b.all()
	got = slices.Collect(seq)
	if !sameAll(got, want) {
		t.Errorf("All, ranged over after changes, yields %s, want %s", numbers(got), numbers(want))
	}
	// Each node goes as it is yielded.
	for n := range b.x.All() {
		b.drop(n.No)
	}
	b.all()
	if b.x.Len() != 0 {
		t.Errorf("Len() = %d after each node was dropped as All yielded it", b.x.Len())
	}
}

// changes calls f with each field of a node that stands at p, and puts something else there before.
func changes(p *api.Node, f func(field string)) {
	v := reflect.ValueOf(p).Elem()
	for i := range v.NumField() {
		switch x := v.Field(i); x.Kind() {
		case reflect.Int:
			x.SetInt(x.Int() + 1)
		case reflect.String:
			x.SetString(x.String() + "!")
		default:
			p.Ents = append(p.Ents, api.Ent{Name: "!", No: 9})
		}
		f(v.Type().Field(i).Name)
	}
}

// P13.1: a field that a caller sets in its own copy of a node changes nothing in the table.
func TestFields(t *testing.T) {
	b := filled(t, 3)
	handed := node(5, 80)
	b.add(handed)
	changes(&handed, func(field string) {
		if got := yielded(b.x); !sameAll(got, b.l) {
			t.Errorf("field %s, set after Add, changes what All yields: %v", field, got)
		}
		b.all()
	})
	handed = node(2, 81)
	b.set(handed)
	changes(&handed, func(string) { b.all() })
	answered, _ := b.x.Get(2)
	changes(&answered, func(string) { b.all() })
	missed, _ := b.x.Get(99)
	changes(&missed, func(string) {
		b.all()
		b.get(99)
	})
	for n := range b.x.All() {
		changes(&n, func(string) { b.all() })
	}
}

// LANGUAGE.md, 7: the list of entries of what is handed in is not kept, and not changed; what is behind its end neither.
func TestHandedIn(t *testing.T) {
	for _, room := range []int{0, 1, 3} {
		b := filled(t, 3)
		memory := make([]api.Ent, 4+room)
		for i := range memory {
			memory[i] = api.Ent{Name: fmt.Sprint(i), No: i}
		}
		before := slices.Clone(memory)
		n := node(2, 90)
		n.Ents = memory[:4]
		for what, do := range []func(){func() { b.add(n) }, func() { b.set(n) }} {
			do()
			b.all()
			if !slices.Equal(memory, before) {
				t.Errorf("call %d, with %d behind the list's end, leaves %v", what, room, memory)
			}
			for i := range memory {
				memory[i] = api.Ent{Name: "written over", No: -i}
			}
			b.all()
			copy(memory, before)
		}
	}
}

// LANGUAGE.md, 7: the list of entries of what is answered is of new memory.
func TestAnswered(t *testing.T) {
	b := filled(t, 3)
	for range 2 {
		for no := 1; no <= 3; no++ {
			n, _ := b.x.Get(no)
			m, _ := b.x.Get(no)
			want := own(m)
			written(n)
			b.all()
			if !same(m, want) {
				t.Errorf("the lists of two answers of Get(%d) are in one memory", no)
			}
		}
		l := yielded(b.x)
		again := yielded(b.x)
		want := yielded(b.x)
		for _, n := range l {
			written(n)
		}
		b.all()
		if !sameAll(again, want) {
			t.Error("the lists of two answers of All are in one memory")
		}
	}
	// One answer of All, ranged over twice.
	seq := b.x.All()
	for n := range seq {
		written(n)
	}
	if got := slices.Collect(seq); !sameAll(got, b.l) {
		t.Errorf("All, ranged over again, yields %v", got)
	}
	// What is answered may be handed in again, and have entries put behind its own.
	n, _ := b.x.Get(1)
	for k := range 20 {
		n.Ents = append(n.Ents, api.Ent{Name: "z", No: k})
		b.set(n)
		b.add(n)
		b.all()
	}
}

// written writes over the list of entries of a node, up to the end of its memory.
func written(n api.Node) {
	l := n.Ents[:cap(n.Ents)]
	for i := range l {
		l[i] = api.Ent{Name: "written over", No: -99}
	}
}

// P13.1: tables know nothing of each other.
func TestTwo(t *testing.T) {
	a, b, c := begun(t), begun(t), begun(t)
	all := func() {
		t.Helper()
		a.all()
		b.all()
		c.all()
	}
	for k := range 12 {
		a.add(node(k, k))
		all()
		if k%2 == 0 {
			b.add(node(k, 100+k))
			all()
		}
	}
	a.drop(1)
	all()
	b.drop(2)
	all()
	a.set(node(3, 50))
	b.set(node(1, 51))
	c.set(node(3, 52))
	c.drop(4)
	all()
	// A node of one table, handed to the others.
	n, _ := a.x.Get(12)
	b.add(n)
	c.add(n)
	n.No = 1
	c.set(n)
	all()
	b.add(node(0, 53))
	c.drop(1)
	all()
	if a.came != 12 || b.came != 8 || c.came != 1 {
		t.Fatal("a fault of this test")
	}
}

// P13.1: a nil *Table, and a Table that was not created by New, answer 0, zero values and false, and All yields nothing,
// however often they are asked.
func TestNoTable(t *testing.T) {
	var null *table.Table
	var plain table.Table
	in := struct{ table.Table }{}
	row := make([]table.Table, 3)
	for what, x := range map[string]*table.Table{
		"nil": null, "new(Table)": new(table.Table), "var": &plain, "&Table{}": {}, "a field": &in.Table, "an element": &row[1],
	} {
		other := filled(t, 2)
		for again := range 3 {
			for _, no := range append([]int{1, 2, 3}, edges...) {
				if got := x.Add(node(no, 1)); got != 0 {
					t.Errorf("%s: Add of number %d = %d", what, no, got)
				}
				if got := x.Len(); got != 0 {
					t.Errorf("%s: Len() = %d after Add", what, got)
				}
				if x.Set(node(no, 2)) {
					t.Errorf("%s: Set of number %d = true", what, no)
				}
				if got, ok := x.Get(no); ok || !same(got, api.Node{}) {
					t.Errorf("%s: Get(%d) = %v, %v", what, no, got, ok)
				}
				if x.Drop(no) {
					t.Errorf("%s: Drop(%d) = true", what, no)
				}
				if got := x.Len(); got != 0 {
					t.Errorf("%s: Len() = %d", what, got)
				}
			}
			seq := x.All()
			if seq == nil {
				t.Fatalf("%s: All() is nil", what)
			}
			for n := range seq {
				t.Errorf("%s: All yields number %d, time %d", what, n.No, again)
			}
			seq(func(n api.Node) bool {
				t.Errorf("%s: All yields number %d, time %d, to a call", what, n.No, again)
				return false
			})
		}
		other.all()
		other.add(node(0, 3))
		other.all()
	}
}

// P13.1: all ways of up to five steps through a small table, each call held against a plain list.
func TestWays(t *testing.T) {
	steps := []func(b *both, k int){
		func(b *both, k int) { b.add(node(2, k)) },
		func(b *both, k int) { b.add(node(b.came+2, k)) },
		func(b *both, k int) { b.set(node(1, k)) },
		func(b *both, k int) { b.set(node(b.came, k)) },
		func(b *both, k int) { b.set(node(b.came+1, k)) },
		func(b *both, k int) { b.drop(1) },
		func(b *both, k int) { b.drop(2) },
		func(b *both, k int) { b.drop(b.came) },
	}
	var from func(way []int)
	from = func(way []int) {
		b := begun(t)
		for k, i := range way {
			steps[i](b, k)
		}
		b.all()
		if len(way) == 5 {
			return
		}
		for i := range steps {
			from(append(way[:len(way):len(way)], i))
		}
	}
	from(nil)
}

// random does a step that is drawn by r: more nodes come if more is greater.
func random(b *both, r *rand.Rand, k, more int) {
	b.Helper()
	no := r.IntN(b.came+4) - 1
	switch i := r.IntN(6 + more); {
	case i < more:
		b.add(node(no, k))
	case i < more+2:
		b.drop(no)
	case i < more+3 && len(b.l) > 0:
		b.drop(b.l[r.IntN(len(b.l))].No)
	case i < more+5:
		b.set(node(no, k))
	default:
		b.get(no)
	}
}

// P13.1: long sequences of calls held against a plain list; some tables stay small, and some grow.
func TestLong(t *testing.T) {
	r := rand.New(rand.NewPCG(13, 1))
	for round := range 200 {
		b := begun(t)
		for k := range 300 {
			random(b, r, k, 1+round%6)
			if k%29 == 0 {
				b.all()
			}
		}
		b.all()
	}
}

// P13.1: more nodes than one mount may have, almost all of which go again.
func TestMany(t *testing.T) {
	const many = 3*65536 + 1
	x := table.New()
	for no := 1; no <= many; no++ {
		if got := x.Add(api.Node{No: -no, UID: no}); got != no {
			t.Fatalf("Add = %d, want %d", got, no)
		}
	}
	held := func(apart int) {
		t.Helper()
		if got := x.Len(); got != many/apart {
			t.Fatalf("Len() = %d, want %d", got, many/apart)
		}
		want := apart
		for n := range x.All() {
			if n.No != want || n.UID != want {
				t.Fatalf("All yields number %d of user %d, want %d", n.No, n.UID, want)
			}
			want += apart
		}
		if want <= many {
			t.Fatalf("All ends ahead of number %d", want)
		}
	}
	held(1)
	for no := many; no >= 1; no-- {
		if no%1000 != 0 && !x.Drop(no) {
			t.Fatalf("Drop(%d) = false", no)
		}
	}
	held(1000)
	// And on past as many numbers as all mounts may have nodes.
	for no := many + 1; no <= 9*65536; no++ {
		if got := x.Add(api.Node{}); got != no || !x.Drop(no) {
			t.Fatalf("Add = %d, want %d", got, no)
		}
	}
	held(1000)
}

// P13.1, beyond the sequences above: each byte of the text is a call.
func FuzzTable(f *testing.F) {
	for _, s := range []string{"", "a", "aaa", "aaabcdefgh", "\x00\x01\x02\x03\x04\x05\x06\x07", "aAbBcCdDeE", "\xff\xfe\x80\x7f"} {
		f.Add(s, 0)
		f.Add(s, math.MinInt)
		f.Add(s, math.MaxInt)
	}
	f.Fuzz(func(t *testing.T, s string, far int) {
		b := begun(t)
		for k := range min(len(s), 100) {
			no := int(s[k]/8) - 1
			if no == 30 {
				no = far
			}
			switch s[k] % 8 {
			case 0, 1, 2:
				b.add(node(no, k))
			case 3, 4:
				b.drop(no)
			case 5:
				b.set(node(no, k))
			case 6:
				b.get(no)
			default:
				b.all()
			}
		}
		b.all()
	})
}
