package quota_test

import (
	"fmt"
	"math"
	"math/big"
	"math/rand/v2"
	"slices"
	"testing"

	"ragpicker/api"
	"ragpicker/quota"
)

// The document's numbers, written out.
const (
	block     = 512
	maxBlocks = 1073741824
	maxNodes  = 65536
)

// kinds are those of nodes, and numbers that are none.
var kinds = []int{
	math.MinInt, math.MinInt + 1, -maxBlocks, -3, -2, -1, 0, api.Dir, api.File, api.Link, api.Hard, 5, 6, 256 + 1, 256 + 2, block,
	1<<32 + 1, 1<<32 + 2, math.MaxInt - 1, math.MaxInt,
}

// edges are numbers around all those that the document names, and around the ends of the kinds of integers.
var edges = around(0, block, maxNodes, maxBlocks, 2*maxBlocks, 1<<32, 1<<32+maxBlocks, 1<<32+maxNodes, 1<<62, math.MaxInt-1)

// around is some numbers, and those below 0, with the ones one below and one above each, rising.
func around(numbers ...int) []int {
	l := []int{math.MinInt}
	for _, n := range numbers {
		l = append(l, n-1, n, n+1, -n-1, -n, -n+1)
	}
	slices.Sort(l)
	return slices.Compact(l)
}

// space is one with so much in use, and so much that may be.
func space(blocks, nodes, mostBlocks, mostNodes int) api.Space {
	return api.Space{Blocks: blocks, Nodes: nodes, MostBlocks: mostBlocks, MostNodes: mostNodes}
}

// cmp is how the sum of some numbers stands to a limit; the sum has all its digits, whatever the numbers are.
func cmp(limit int, numbers ...int) int {
	sum := new(big.Int)
	for _, n := range numbers {
		sum.Add(sum, big.NewInt(int64(n)))
	}
	return sum.Cmp(big.NewInt(int64(limit)))
}

// wantBlocks is Blocks, by the document's words: as many whole blocks as there are, and one for what is left of the bytes.
func wantBlocks(kind, size int) int {
	if kind == 1 {
		return 1
	}
	if kind != 2 || size < 1 {
		return 0
	}
	whole, left := new(big.Int).DivMod(big.NewInt(int64(size)), big.NewInt(block), new(big.Int))
	if left.Sign() > 0 {
		whole.Add(whole, big.NewInt(1))
	}
	return int(whole.Int64())
}

// wantNew is New, by the document's words.
func wantNew(blocks, nodes int) (api.Space, api.Errno) {
	if cmp(1, blocks) < 0 || cmp(maxBlocks, blocks) > 0 || cmp(1, nodes) < 0 || cmp(maxNodes, nodes) > 0 {
		return api.Space{}, 3
	}
	return space(0, 0, blocks, nodes), 0
}

// wantFine is Fine, by the document's words: each row of four rises.
func wantFine(q api.Space) bool {
	return slices.IsSorted([]int{0, q.Blocks, q.MostBlocks, maxBlocks}) && slices.IsSorted([]int{0, q.Nodes, q.MostNodes, maxNodes})
}

// wantTake is Take, by the document's words: the first that applies of the errors in their order.
func wantTake(q api.Space, blocks, nodes int) (api.Space, api.Errno) {
	far := func(n int) bool { return cmp(maxBlocks, n) > 0 || cmp(-maxBlocks, n) < 0 }
	for _, x := range []struct {
		applies bool
		e       api.Errno
	}{
		{!wantFine(q), 1},
		{far(blocks) || far(nodes), 1},
		{cmp(q.MostNodes, q.Nodes, nodes) > 0, 15},
		{cmp(q.MostBlocks, q.Blocks, blocks) > 0, 14},
		{cmp(0, q.Blocks, blocks) < 0 || cmp(0, q.Nodes, nodes) < 0, 1},
	} {
		if x.applies {
			return q, x.e
		}
	}
	return space(q.Blocks+blocks, q.Nodes+nodes, q.MostBlocks, q.MostNodes), 0
}

// counted holds the answer of Blocks against what P12.1 says of it.
func counted(t *testing.T, kind, size int) {
	t.Helper()
	if got, want := quota.Blocks(kind, size), wantBlocks(kind, size); got != want {
		t.Errorf("Blocks(%d, %d) = %d, want %d", kind, size, got, want)
	}
}

// made holds the answer of New against what P12.1 says of it.
func made(t *testing.T, blocks, nodes int) {
	t.Helper()
	want, is := wantNew(blocks, nodes)
	if got, e := quota.New(blocks, nodes); got != want || e != is {
		t.Errorf("New(%d, %d) = %v, %d, want %v, %d", blocks, nodes, got, e, want, is)
	}
}

// fine holds the answer of Fine against what P12.1 says of it.
func fine(t *testing.T, q api.Space) {
	t.Helper()
	if got, want := quota.Fine(q), wantFine(q); got != want {
		t.Errorf("Fine(%v) = %v, want %v", q, got, want)
	}
}

// took holds the answer of Take against what P12.1 says of it, and against P12.2: what was valid stays so, and what was
// taken can be given back, and what was given back can be taken.
func took(t *testing.T, q api.Space, blocks, nodes int) {
	t.Helper()
	want, is := wantTake(q, blocks, nodes)
	got, e := quota.Take(q, blocks, nodes)
	if got != want || e != is {
		t.Errorf("Take(%v, %d, %d) = %v, %d, want %v, %d", q, blocks, nodes, got, e, want, is)
	}
	if e != api.OK {
		return
	}
	if !quota.Fine(got) {
		t.Errorf("Take(%v, %d, %d) = %v, which is not valid", q, blocks, nodes, got)
	}
	if back, e := quota.Take(got, -blocks, -nodes); back != q || e != api.OK {
		t.Errorf("Take(%v, %d, %d), after as much of %v the other way, = %v, %d", got, -blocks, -nodes, q, back, e)
	}
}

// P12.1: Blocks, with the edges written down.
func TestBlocks(t *testing.T) {
	for _, x := range []struct{ kind, size, want int }{
		{api.Dir, 0, 1}, {api.Dir, 1, 1}, {api.Dir, -1, 1}, {api.Dir, 513, 1}, {api.Dir, 5000, 1},
		{api.Dir, math.MinInt, 1}, {api.Dir, math.MaxInt, 1},
		{api.File, 1, 1}, {api.File, 2, 1}, {api.File, 255, 1}, {api.File, 256, 1}, {api.File, 511, 1}, {api.File, 512, 1},
		{api.File, 513, 2}, {api.File, 514, 2}, {api.File, 1023, 2}, {api.File, 1024, 2}, {api.File, 1025, 3},
		{api.File, 1535, 3}, {api.File, 1536, 3}, {api.File, 1537, 4}, {api.File, 5120, 10}, {api.File, 5121, 11},
		{api.File, api.MaxFile - 1, 2048}, {api.File, api.MaxFile, 2048}, {api.File, api.MaxFile + 1, 2049},
		{api.File, math.MaxInt, 18014398509481984}, {api.File, math.MaxInt - 510, 18014398509481984},
		{api.File, math.MaxInt - 511, 18014398509481983}, {api.File, math.MaxInt - 1022, 18014398509481983},
		{api.File, math.MaxInt - 1023, 18014398509481982},
		{api.File, 0, 0}, {api.File, -1, 0}, {api.File, -511, 0}, {api.File, -512, 0}, {api.File, -513, 0}, {api.File, -5000, 0},
		{api.File, math.MinInt, 0}, {api.File, math.MinInt + 1, 0},
		{api.Link, 0, 0}, {api.Link, 1, 0}, {api.Link, 513, 0}, {api.Link, math.MaxInt, 0}, {api.Link, -1, 0},
		{api.Hard, 0, 0}, {api.Hard, 513, 0}, {0, 513, 0}, {5, 513, 0}, {-1, 513, 0}, {-2, 513, 0}, {-1, 0, 0},
		{math.MinInt, 513, 0}, {math.MaxInt, 513, 0}, {1<<32 + 1, 513, 0}, {1<<32 + 2, 513, 0},
	} {
		if got := quota.Blocks(x.kind, x.size); got != x.want {
			t.Errorf("Blocks(%d, %d) = %d, want %d", x.kind, x.size, got, x.want)
		}
	}
}

// P12.1: Blocks of every size that a file may have, counted byte by byte, and of some below.
func TestBlocksEachSize(t *testing.T) {
	want := 0
	for size := 1; size <= api.MaxFile+3*block; size++ {
		if size%block == 1 {
			want++
		}
		if got := quota.Blocks(api.File, size); got != want {
			t.Fatalf("Blocks(File, %d) = %d, want %d", size, got, want)
		}
	}
	for size := -3 * block; size < 1; size++ {
		if got := quota.Blocks(api.File, size); got != 0 {
			t.Errorf("Blocks(File, %d) = %d, want 0", size, got)
		}
	}
}

// P12.1: Blocks of kinds of all sorts, with sizes of all sorts.
func TestBlocksAll(t *testing.T) {
	sizes := slices.Clone(edges)
	for n := 1; n < 1<<52; n *= 3 {
		sizes = append(sizes, around(n, n*block)...)
	}
	for _, kind := range kinds {
		for _, size := range sizes {
			counted(t, kind, size)
		}
	}
	for kind := -300; kind <= 300; kind++ {
		for _, size := range []int{-1, 0, 1, 512, 513} {
			counted(t, kind, size)
		}
	}
}

// P12.1: New, with the edges written down.
func TestNew(t *testing.T) {
	for _, x := range []struct {
		blocks, nodes int
		e             api.Errno
	}{
		{1, 1, api.OK}, {2, 1, api.OK}, {1, 2, api.OK}, {100, 50, api.OK}, {50, 100, api.OK},
		{maxBlocks, maxNodes, api.OK}, {maxBlocks, 1, api.OK}, {1, maxNodes, api.OK},
		{maxBlocks - 1, maxNodes - 1, api.OK}, {maxNodes, maxNodes, api.OK}, {maxNodes + 1, maxNodes, api.OK},
		{0, 1, api.ErrRange}, {1, 0, api.ErrRange}, {0, 0, api.ErrRange}, {-1, 1, api.ErrRange}, {1, -1, api.ErrRange},
		{-1, -1, api.ErrRange}, {0, -1, api.ErrRange}, {-5, 5, api.ErrRange}, {5, -5, api.ErrRange},
		{maxBlocks + 1, 1, api.ErrRange}, {1, maxNodes + 1, api.ErrRange}, {maxBlocks + 1, maxNodes + 1, api.ErrRange},
		{maxBlocks + 1, maxNodes, api.ErrRange}, {maxBlocks, maxNodes + 1, api.ErrRange}, {maxNodes, maxBlocks, api.ErrRange},
		{0, maxNodes, api.ErrRange}, {maxBlocks, 0, api.ErrRange}, {0, maxNodes + 1, api.ErrRange}, {maxBlocks + 1, 0, api.ErrRange},
		{-maxBlocks, 1, api.ErrRange}, {1, -maxNodes, api.ErrRange},
		{math.MinInt, 1, api.ErrRange}, {1, math.MinInt, api.ErrRange}, {math.MaxInt, 1, api.ErrRange}, {1, math.MaxInt, api.ErrRange},
		{math.MinInt, math.MinInt, api.ErrRange}, {math.MaxInt, math.MaxInt, api.ErrRange}, {1<<32 + 1, 1<<32 + 1, api.ErrRange},
	} {
		want := api.Space{}
		if x.e == api.OK {
			want = api.Space{Blocks: 0, Nodes: 0, MostBlocks: x.blocks, MostNodes: x.nodes}
		}
		if got, e := quota.New(x.blocks, x.nodes); got != want || e != x.e {
			t.Errorf("New(%d, %d) = %v, %d, want %v, %d", x.blocks, x.nodes, got, e, want, x.e)
		}
	}
}

// P12.1: New of all pairs of numbers, and P12.2: a new space is valid, and nothing can be given back.
func TestNewPairs(t *testing.T) {
	numbers := slices.Concat(edges, around(2, 7, 1000, maxNodes/2, maxBlocks/2))
	for _, blocks := range numbers {
		for _, nodes := range numbers {
			made(t, blocks, nodes)
			q, e := quota.New(blocks, nodes)
			if e != api.OK {
				continue
			}
			fine(t, q)
			for _, n := range []int{0, 1, -1} {
				took(t, q, n, 0)
				took(t, q, 0, n)
				took(t, q, n, n)
			}
			took(t, q, blocks, nodes)
			took(t, q, blocks+1, nodes)
			took(t, q, blocks, nodes+1)
		}
	}
}

// P12.1: Fine, with the edges written down: each of the numbers one below, at and one above its bounds.
func TestFine(t *testing.T) {
	for _, x := range []struct {
		q    api.Space
		want bool
	}{
		{space(0, 0, 0, 0), true}, {space(0, 0, 1, 1), true}, {space(1, 1, 1, 1), true}, {space(3, 2, 10, 5), true},
		{space(0, 5, 10, 5), true}, {space(10, 0, 10, 5), true}, {space(9, 4, 10, 5), true}, {space(10, 5, 10, 5), true},
		{space(0, 2, 0, 5), true}, {space(3, 0, 10, 0), true}, {space(6, 2, 10, 5), true}, {space(3, 5, 4, 10), true},
		// What is in use.
		{space(-1, 2, 10, 5), false}, {space(3, -1, 10, 5), false}, {space(-1, -1, 10, 5), false},
		{space(11, 2, 10, 5), false}, {space(3, 6, 10, 5), false}, {space(11, 6, 10, 5), false},
		{space(1, 0, 0, 5), false}, {space(0, 1, 10, 0), false}, {space(1, 0, 0, 0), false}, {space(0, 1, 0, 0), false},
		{space(-1, 0, 0, 0), false}, {space(0, -1, 0, 0), false},
		{space(math.MinInt, 2, 10, 5), false}, {space(3, math.MinInt, 10, 5), false},
		{space(math.MaxInt, 2, 10, 5), false}, {space(3, math.MaxInt, 10, 5), false},
		// The limits.
		{space(3, 2, maxBlocks-1, 5), true}, {space(3, 2, maxBlocks, 5), true}, {space(3, 2, maxBlocks+1, 5), false},
		{space(3, 2, 10, maxNodes-1), true}, {space(3, 2, 10, maxNodes), true}, {space(3, 2, 10, maxNodes+1), false},
		{space(0, 0, maxBlocks+1, 5), false}, {space(0, 0, 10, maxNodes+1), false},
		{space(maxBlocks, maxNodes, maxBlocks, maxNodes), true}, {space(maxBlocks-1, maxNodes-1, maxBlocks, maxNodes), true},
		{space(maxBlocks+1, maxNodes, maxBlocks, maxNodes), false}, {space(maxBlocks, maxNodes+1, maxBlocks, maxNodes), false},
		{space(maxBlocks+1, 2, maxBlocks+1, 5), false}, {space(3, maxNodes+1, 10, maxNodes+1), false},
		{space(3, 2, maxNodes+1, 5), true}, {space(maxNodes+1, 2, maxNodes+1, 5), true},
		{space(3, 2, 10, maxBlocks), false}, {space(3, maxBlocks, 10, maxBlocks), false},
		{space(3, 2, 3, 5), true}, {space(3, 2, 2, 5), false}, {space(3, 2, 10, 2), true}, {space(3, 2, 10, 1), false},
		{space(0, 0, -1, 5), false}, {space(0, 0, 10, -1), false}, {space(0, 0, -1, -1), false},
		{space(-1, 2, -1, 5), false}, {space(3, -1, 10, -1), false}, {space(-2, 2, -1, 5), false}, {space(3, -2, 10, -1), false},
		{space(0, 0, math.MinInt, 5), false}, {space(0, 0, 10, math.MinInt), false},
		{space(math.MinInt, 0, math.MinInt, 5), false}, {space(0, math.MinInt, 10, math.MinInt), false},
		{space(3, 2, math.MaxInt, 5), false}, {space(3, 2, 10, math.MaxInt), false},
		{space(math.MaxInt, 2, math.MaxInt, 5), false}, {space(3, math.MaxInt, 10, math.MaxInt), false},
		{space(math.MinInt, math.MinInt, math.MaxInt, math.MaxInt), false},
	} {
		if got := quota.Fine(x.q); got != x.want {
			t.Errorf("Fine(%v) = %v, want %v", x.q, got, x.want)
		}
	}
}

// P12.1: Fine of all spaces of small numbers, and of all of numbers at the edges.
func TestFineAll(t *testing.T) {
	small := []int{-2, -1, 0, 1, 2, 3}
	ends := slices.Concat([]int{math.MinInt, math.MaxInt}, around(0, maxNodes, maxBlocks))
	for _, numbers := range [][]int{small, ends} {
		for _, blocks := range numbers {
			for _, nodes := range numbers {
				for _, mostBlocks := range numbers {
					for _, mostNodes := range numbers {
						fine(t, space(blocks, nodes, mostBlocks, mostNodes))
					}
				}
			}
		}
	}
}

// P12.1: Take, with the cases written down.
func TestTake(t *testing.T) {
	full := space(maxBlocks, maxNodes, maxBlocks, maxNodes)
	wide := space(0, 0, maxBlocks, maxNodes)
	for _, x := range []struct {
		what          string
		q             api.Space
		blocks, nodes int
		want          api.Space
	}{
		{"nothing", space(3, 2, 10, 5), 0, 0, space(3, 2, 10, 5)},
		{"nothing of nothing", space(0, 0, 0, 0), 0, 0, space(0, 0, 0, 0)},
		{"blocks", space(3, 2, 10, 5), 4, 0, space(7, 2, 10, 5)},
		{"nodes", space(3, 2, 10, 5), 0, 2, space(3, 4, 10, 5)},
		{"both", space(3, 2, 10, 5), 4, 2, space(7, 4, 10, 5)},
		{"all that is left of the blocks", space(3, 2, 10, 5), 7, 1, space(10, 3, 10, 5)},
		{"all that is left of the nodes", space(3, 2, 10, 5), 1, 3, space(4, 5, 10, 5)},
		{"all that is left of both", space(3, 2, 10, 5), 7, 3, space(10, 5, 10, 5)},
		{"blocks back", space(3, 2, 10, 5), -2, 0, space(1, 2, 10, 5)},
		{"nodes back", space(3, 2, 10, 5), 0, -1, space(3, 1, 10, 5)},
		{"both back", space(3, 2, 10, 5), -2, -1, space(1, 1, 10, 5)},
		{"all blocks back", space(3, 2, 10, 5), -3, 0, space(0, 2, 10, 5)},
		{"all nodes back", space(3, 2, 10, 5), 0, -2, space(3, 0, 10, 5)},
		{"all back", space(3, 2, 10, 5), -3, -2, space(0, 0, 10, 5)},
		{"all back of what was full", space(10, 5, 10, 5), -10, -5, space(0, 0, 10, 5)},
		{"blocks for nodes", space(3, 2, 10, 5), 7, -2, space(10, 0, 10, 5)},
		{"nodes for blocks", space(3, 2, 10, 5), -3, 3, space(0, 5, 10, 5)},
		{"nodes where no block may be", space(0, 2, 0, 5), 0, 3, space(0, 5, 0, 5)},
		{"blocks where no node may be", space(3, 0, 10, 0), 7, 0, space(10, 0, 10, 0)},
		{"everything", wide, maxBlocks, maxNodes, full},
		{"everything but one", wide, maxBlocks - 1, maxNodes - 1, space(maxBlocks-1, maxNodes-1, maxBlocks, maxNodes)},
		{"the last ones", space(maxBlocks-1, maxNodes-1, maxBlocks, maxNodes), 1, 1, full},
		{"everything back", full, -maxBlocks, -maxNodes, wide},
		{"everything but one back", full, 1 - maxBlocks, 1 - maxNodes, space(1, 1, maxBlocks, maxNodes)},
		{"all blocks for all nodes", space(0, maxNodes, maxBlocks, maxNodes), maxBlocks, -maxNodes, space(maxBlocks, 0, maxBlocks, maxNodes)},
		{"all nodes for all blocks", space(maxBlocks, 0, maxBlocks, maxNodes), -maxBlocks, maxNodes, space(0, maxNodes, maxBlocks, maxNodes)},
		{"more blocks than nodes may be", wide, maxNodes + 1, 1, space(maxNodes+1, 1, maxBlocks, maxNodes)},
	} {
		if got, e := quota.Take(x.q, x.blocks, x.nodes); got != x.want || e != api.OK {
			t.Errorf("%s: Take(%v, %d, %d) = %v, %d, want %v, 0", x.what, x.q, x.blocks, x.nodes, got, e, x.want)
		}
		took(t, x.q, x.blocks, x.nodes)
	}
}

// P12.1: each error of Take alone; the space is as it was.
func TestTakeErrors(t *testing.T) {
	full := space(maxBlocks, maxNodes, maxBlocks, maxNodes)
	wide := space(0, 0, maxBlocks, maxNodes)
	for _, x := range []struct {
		what          string
		q             api.Space
		blocks, nodes int
		e             api.Errno
	}{
		{"blocks in use below 0", space(-1, 2, 10, 5), 0, 0, api.ErrArg},
		{"nodes in use below 0", space(3, -1, 10, 5), 0, 0, api.ErrArg},
		{"too many blocks in use", space(11, 2, 10, 5), 0, 0, api.ErrArg},
		{"too many nodes in use", space(3, 6, 10, 5), 0, 0, api.ErrArg},
		{"a limit of blocks below 0", space(0, 0, -1, 5), 0, 0, api.ErrArg},
		{"a limit of nodes below 0", space(0, 0, 10, -1), 0, 0, api.ErrArg},
		{"a limit of blocks above the greatest", space(3, 2, maxBlocks+1, 5), 0, 0, api.ErrArg},
		{"a limit of nodes above the greatest", space(3, 2, 10, maxNodes+1), 0, 0, api.ErrArg},
		{"blocks in use below 0, and none would be", space(-1, 2, 10, 5), 1, 0, api.ErrArg},
		{"nodes in use below 0, and none would be", space(3, -1, 10, 5), 0, 1, api.ErrArg},
		{"too many blocks in use, and fewer would be", space(11, 2, 10, 5), -1, 0, api.ErrArg},
		{"too many nodes in use, and fewer would be", space(3, 6, 10, 5), 0, -1, api.ErrArg},
		{"the least ints", space(math.MinInt, math.MinInt, math.MinInt, math.MinInt), 0, 0, api.ErrArg},
		{"the greatest ints", space(math.MaxInt, math.MaxInt, math.MaxInt, math.MaxInt), 0, 0, api.ErrArg},
		{"one block too few in use for -MaxBlocks", space(maxBlocks-1, 0, maxBlocks, 5), -maxBlocks, 0, api.ErrArg},
		{"one node too many", space(3, 2, 10, 5), 0, 4, api.ErrNodes},
		{"one node too many of a full mount", space(3, 5, 10, 5), 0, 1, api.ErrNodes},
		{"many nodes too many", space(3, 2, 10, 5), 0, 1000, api.ErrNodes},
		{"the most nodes that may be asked for", space(3, 2, 10, 5), 0, maxBlocks, api.ErrNodes},
		{"one node below them", space(3, 2, 10, 5), 0, maxBlocks - 1, api.ErrNodes},
		{"a node where none may be", space(3, 0, 10, 0), 0, 1, api.ErrNodes},
		{"one node more than the most", full, 0, 1, api.ErrNodes},
		{"one node more than the most at once", wide, 0, maxNodes + 1, api.ErrNodes},
		{"one block too many", space(3, 2, 10, 5), 8, 0, api.ErrSpace},
		{"one block too many of a full mount", space(10, 2, 10, 5), 1, 0, api.ErrSpace},
		{"many blocks too many", space(3, 2, 10, 5), 1000, 0, api.ErrSpace},
		{"the most blocks that may be asked for", space(3, 2, 10, 5), maxBlocks, 0, api.ErrSpace},
		{"a block where none may be", space(0, 2, 0, 5), 1, 0, api.ErrSpace},
		{"one block more than the most", full, 1, 0, api.ErrSpace},
		{"all blocks again", full, maxBlocks, 0, api.ErrSpace},
		{"one block too many back", space(3, 2, 10, 5), -4, 0, api.ErrArg},
		{"one node too many back", space(3, 2, 10, 5), 0, -3, api.ErrArg},
		{"one of both too many back", space(3, 2, 10, 5), -4, -3, api.ErrArg},
		{"a block back of none", space(0, 2, 10, 5), -1, 0, api.ErrArg},
		{"a node back of none", space(3, 0, 10, 5), 0, -1, api.ErrArg},
		{"the most blocks back", space(3, 2, 10, 5), -maxBlocks, 0, api.ErrArg},
		{"the most nodes back", space(3, 2, 10, 5), 0, -maxBlocks, api.ErrArg},
		{"blocks beyond the most back", space(3, 2, 10, 5), -maxBlocks - 1, 0, api.ErrArg},
		{"nodes beyond the most back", space(3, 2, 10, 5), 0, -maxBlocks - 1, api.ErrArg},
		{"all back of nothing", wide, -maxBlocks, -maxNodes, api.ErrArg},
		{"the greatest int of blocks", space(3, 2, 10, 5), math.MaxInt, 0, api.ErrArg},
		{"the greatest int of nodes", space(3, 2, 10, 5), 0, math.MaxInt, api.ErrArg},
		{"the least int of blocks", space(3, 2, 10, 5), math.MinInt, 0, api.ErrArg},
		{"the least int of nodes", space(3, 2, 10, 5), 0, math.MinInt, api.ErrArg},
		{"one block beyond the most that may be asked for", space(3, 2, 10, 5), maxBlocks + 1, 0, api.ErrArg},
		{"one node beyond the most that may be asked for", space(3, 2, 10, 5), 0, maxBlocks + 1, api.ErrArg},
		{"the same of a mount that has all", wide, maxBlocks + 1, 0, api.ErrArg},
		{"the same of nodes of a mount that has all", wide, 0, maxBlocks + 1, api.ErrArg},
		{"more than there can be back", full, -maxBlocks - 1, 0, api.ErrArg},
		{"more nodes than there can be back", full, 0, -maxNodes - 1, api.ErrArg},
	} {
		if got, e := quota.Take(x.q, x.blocks, x.nodes); got != x.q || e != x.e {
			t.Errorf("%s: Take(%v, %d, %d) = %v, %d, want %v, %d", x.what, x.q, x.blocks, x.nodes, got, e, x.q, x.e)
		}
		took(t, x.q, x.blocks, x.nodes)
	}
}

// P12.1: two errors of Take, and more, together: the first one counts, and the space is as it was.
func TestTakeOrder(t *testing.T) {
	odd := space(11, 2, 10, 5)
	for _, x := range []struct {
		what          string
		q             api.Space
		blocks, nodes int
		e             api.Errno
	}{
		{"not valid, and blocks beyond the greatest", odd, maxBlocks + 1, 0, api.ErrArg},
		{"not valid, and nodes beyond the greatest", odd, 0, maxBlocks + 1, api.ErrArg},
		{"not valid, and blocks beyond the least", odd, -maxBlocks - 1, 0, api.ErrArg},
		{"not valid, and nodes beyond the least", odd, 0, -maxBlocks - 1, api.ErrArg},
		{"not valid, and the greatest ints", odd, math.MaxInt, math.MaxInt, api.ErrArg},
		{"not valid, and the least ints", odd, math.MinInt, math.MinInt, api.ErrArg},
		{"not valid, and too many nodes", odd, -1, 4, api.ErrArg},
		{"not valid by its nodes, and too many nodes", space(3, 6, 10, 5), 0, 1, api.ErrArg},
		{"not valid, and too many blocks", odd, 1, 0, api.ErrArg},
		{"not valid by its nodes, and too many blocks", space(3, 6, 10, 5), 8, -1, api.ErrArg},
		{"not valid, and too many blocks back", odd, -12, 0, api.ErrArg},
		{"not valid, and too many nodes back", odd, -1, -3, api.ErrArg},
		{"not valid below 0, and too many blocks back", space(-1, 2, 10, 5), -1, 0, api.ErrArg},
		{"not valid, and too many of both", odd, 1, 4, api.ErrArg},
		{"not valid, too many blocks beyond the greatest, too many nodes", odd, maxBlocks + 1, 4, api.ErrArg},
		{"blocks beyond the greatest, and too many nodes", space(3, 2, 10, 5), maxBlocks + 1, 4, api.ErrArg},
		{"nodes beyond the greatest, and so too many", space(3, 2, 10, 5), 0, maxBlocks + 1, api.ErrArg},
		{"blocks beyond the least, and too many nodes", space(3, 2, 10, 5), -maxBlocks - 1, 4, api.ErrArg},
		{"blocks beyond the greatest, and so too many", space(3, 2, 10, 5), maxBlocks + 1, 0, api.ErrArg},
		{"nodes beyond the greatest, and too many blocks", space(3, 2, 10, 5), 8, maxBlocks + 1, api.ErrArg},
		{"nodes beyond the least, and too many blocks", space(3, 2, 10, 5), 8, -maxBlocks - 1, api.ErrArg},
		{"blocks beyond the greatest, and too many nodes back", space(3, 2, 10, 5), maxBlocks + 1, -3, api.ErrArg},
		{"nodes beyond the greatest, and too many blocks back", space(3, 2, 10, 5), -4, maxBlocks + 1, api.ErrArg},
		{"the greatest int of both", space(3, 2, 10, 5), math.MaxInt, math.MaxInt, api.ErrArg},
		{"the least int of both", space(3, 2, 10, 5), math.MinInt, math.MinInt, api.ErrArg},
		{"the greatest int and the least", space(3, 2, 10, 5), math.MaxInt, math.MinInt, api.ErrArg},
		{"the least int and the greatest", space(3, 2, 10, 5), math.MinInt, math.MaxInt, api.ErrArg},
		{"the least int of blocks, and too many nodes", space(3, 2, 10, 5), math.MinInt, 4, api.ErrArg},
		{"the greatest int of blocks, and too many nodes", space(3, 2, 10, 5), math.MaxInt, 4, api.ErrArg},
		{"the least int of nodes, and too many blocks", space(3, 2, 10, 5), 8, math.MinInt, api.ErrArg},
		{"too many nodes, and too many blocks", space(3, 2, 10, 5), 8, 4, api.ErrNodes},
		{"the example of the chapter", space(0, 0, 1, 1), 2, 2, api.ErrNodes},
		{"MaxBlocks of both", space(3, 2, 10, 5), maxBlocks, maxBlocks, api.ErrNodes},
		{"MaxBlocks of both, of a mount that has all", space(0, 0, maxBlocks, maxNodes), maxBlocks, maxBlocks, api.ErrNodes},
		{"one of both too many", space(10, 5, 10, 5), 1, 1, api.ErrNodes},
		{"too many nodes, and too many blocks back", space(3, 2, 10, 5), -4, 4, api.ErrNodes},
		{"MaxBlocks of nodes, and -MaxBlocks of blocks", space(3, 2, 10, 5), -maxBlocks, maxBlocks, api.ErrNodes},
		{"too many blocks, and too many nodes back", space(3, 2, 10, 5), 8, -3, api.ErrSpace},
		{"MaxBlocks of blocks, and -MaxBlocks of nodes", space(3, 2, 10, 5), maxBlocks, -maxBlocks, api.ErrSpace},
		{"too many blocks, and all nodes back", space(3, 2, 10, 5), 8, -2, api.ErrSpace},
		{"too many nodes, and all blocks back", space(3, 2, 10, 5), -3, 4, api.ErrNodes},
		{"-MaxBlocks of both", space(3, 2, 10, 5), -maxBlocks, -maxBlocks, api.ErrArg},
		{"all that is left of the blocks, and too many nodes back", space(3, 2, 10, 5), 7, -3, api.ErrArg},
		{"all that is left of the nodes, and too many blocks back", space(3, 2, 10, 5), -4, 3, api.ErrArg},
	} {
		if got, e := quota.Take(x.q, x.blocks, x.nodes); got != x.q || e != x.e {
			t.Errorf("%s: Take(%v, %d, %d) = %v, %d, want %v, %d", x.what, x.q, x.blocks, x.nodes, got, e, x.q, x.e)
		}
		took(t, x.q, x.blocks, x.nodes)
	}
}

// P12.1 and P12.2: Take of all spaces of small numbers, also such that are not valid, with all small amounts.
func TestTakeSmall(t *testing.T) {
	for code := range 5 * 5 * 5 * 5 {
		q := space(code%5-1, code/5%5-1, code/25%5-1, code/125%5-1)
		for blocks := -5; blocks <= 5; blocks++ {
			for nodes := -5; nodes <= 5; nodes++ {
				took(t, q, blocks, nodes)
			}
		}
	}
}

// P12.1 and P12.2: Take of spaces at the edges, with amounts at the edges and such that reach each limit, and 0, exactly
// or miss them by one.
func TestTakeEdges(t *testing.T) {
	ends := around(0, 7, maxNodes, maxBlocks)
	used := []int{-1, 0, 1, 6, 7, maxNodes - 1, maxNodes, maxNodes + 1, maxBlocks - 1, maxBlocks, maxBlocks + 1, math.MinInt, math.MaxInt}
	most := []int{-1, 0, 1, 7, maxNodes, maxNodes + 1, maxBlocks, maxBlocks + 1, math.MinInt, math.MaxInt}
	for _, u := range used {
		for _, m := range most {
			for _, q := range []api.Space{space(u, 3, m, 9), space(3, u, 9, m), space(u, u, m, m), space(u, 0, m, maxNodes), space(0, u, maxBlocks, m)} {
				amounts := slices.Concat(ends, around(m-u, u), []int{math.MinInt, math.MaxInt})
				for _, n := range amounts {
					for _, other := range []int{0, 1, 6, 7, -3, -4, -n, n, maxBlocks, maxBlocks + 1, -maxBlocks, -maxBlocks - 1} {
						took(t, q, n, other)
						took(t, q, other, n)
					}
				}
			}
		}
	}
}

// P12.1: all pairs of amounts at the edges, of spaces that are nearly empty, half full and nearly full, and of one that
// is not valid.
func TestTakeAmounts(t *testing.T) {
	for _, q := range []api.Space{
		space(0, 0, maxBlocks, maxNodes), space(1, 1, maxBlocks, maxNodes), space(maxBlocks, maxNodes, maxBlocks, maxNodes),
		space(maxBlocks-1, maxNodes-1, maxBlocks, maxNodes), space(maxBlocks/2, maxNodes/2, maxBlocks, maxNodes),
		space(3, 2, 10, 5), space(0, 0, 0, 0), space(1, 0, 0, 0), space(3, 2, maxBlocks+1, 5), space(3, 2, 10, maxNodes+1),
		space(maxBlocks+1, maxNodes+1, maxBlocks+1, maxNodes+1), space(-1, -1, -1, -1),
	} {
		for _, blocks := range edges {
			for _, nodes := range edges {
				took(t, q, blocks, nodes)
			}
		}
	}
}

// P12.1 and P12.2: every way through a small mount: each space that is reached is valid, and holds what was taken of it.
func TestReached(t *testing.T) {
	start, e := quota.New(4, 3)
	if e != api.OK {
		t.Fatalf("New(4, 3) = %v, %d", start, e)
	}
	seen := map[api.Space]bool{start: true}
	for todo := []api.Space{start}; len(todo) > 0; todo = todo[1:] {
		for blocks := -2; blocks <= 2; blocks++ {
			for nodes := -2; nodes <= 2; nodes++ {
				q := todo[0]
				took(t, q, blocks, nodes)
				got, e := quota.Take(q, blocks, nodes)
				if e == api.OK && !seen[got] {
					seen[got] = true
					todo = append(todo, got)
				}
			}
		}
	}
	for blocks := range 5 {
		for nodes := range 4 {
			if !seen[space(blocks, nodes, 4, 3)] {
				t.Errorf("%d blocks and %d nodes are not reached", blocks, nodes)
			}
		}
	}
	if len(seen) != 5*4 {
		t.Errorf("%d spaces are reached, want 20", len(seen))
	}
}

// taken is amounts that were taken of a space.
type taken struct{ blocks, nodes int }

// P12.2: sequences of amounts, some of them too great: the space stays valid, holds the sum of those that had no error, is
// as it was after the others, and is as at the start when all has been given back, the first ones or the last ones first.
func TestSequences(t *testing.T) {
	for seed := range uint64(400) {
		r := rand.New(rand.NewPCG(seed, 12))
		mostBlocks, mostNodes := 1+r.IntN(1<<(1+seed%30)), 1+r.IntN(1<<(1+seed%16))
		start, e := quota.New(mostBlocks, mostNodes)
		if e != api.OK {
			t.Fatalf("New(%d, %d) has error %d", mostBlocks, mostNodes, e)
		}
		q, l := start, []taken(nil)
		for range 150 {
			x := taken{r.IntN(mostBlocks+2) - mostBlocks/3, r.IntN(mostNodes+2) - mostNodes/3}
			if r.IntN(3) > 0 {
				x = taken{x.blocks / 16, x.nodes / 16}
			}
			want, _ := wantTake(q, x.blocks, x.nodes)
			took(t, q, x.blocks, x.nodes)
			got, e := quota.Take(q, x.blocks, x.nodes)
			if got != want || !quota.Fine(got) || e != api.OK && got != q {
				t.Fatalf("seed %d: Take(%v, %d, %d) = %v, %d", seed, q, x.blocks, x.nodes, got, e)
			}
			if e == api.OK {
				l = append(l, x)
			}
			q = got
		}
		summed(t, q, l)
		givenBack(t, start, q, l)
	}
}

// summed holds what is in use against the sum of what was taken.
func summed(t *testing.T, q api.Space, l []taken) {
	t.Helper()
	var sum taken
	for _, x := range l {
		sum.blocks += x.blocks
		sum.nodes += x.nodes
	}
	if q.Blocks != sum.blocks || q.Nodes != sum.nodes {
		t.Errorf("%v after %v were taken", q, sum)
	}
}

// givenBack gives back what was taken, the last first, which leads back through each space on the way, and then all of it
// at once.
func givenBack(t *testing.T, start, q api.Space, l []taken) {
	t.Helper()
	all := taken{q.Blocks, q.Nodes}
	if got, e := quota.Take(q, -all.blocks, -all.nodes); got != start || e != api.OK {
		t.Errorf("%v, when all is given back, is %v, %d, want %v", q, got, e, start)
	}
	for _, x := range slices.Backward(l) {
		got, e := quota.Take(q, -x.blocks, -x.nodes)
		if e != api.OK || !quota.Fine(got) {
			t.Fatalf("Take(%v, %d, %d) = %v, %d", q, -x.blocks, -x.nodes, got, e)
		}
		q = got
	}
	if q != start {
		t.Errorf("%v after all was given back, want %v", q, start)
	}
}

// P12.2: what can be taken at once can be taken one by one, up to the last block and the last node, and not one more.
func TestOneByOne(t *testing.T) {
	const blocks, nodes = 3000, 2000
	q, e := quota.New(blocks, nodes)
	for n := 1; n <= blocks && e == api.OK; n++ {
		q, e = quota.Take(q, 1, 0)
		if q != space(n, 0, blocks, nodes) {
			t.Fatalf("%v after %d blocks", q, n)
		}
	}
	for n := 1; n <= nodes && e == api.OK; n++ {
		q, e = quota.Take(q, 0, 1)
		if q != space(blocks, n, blocks, nodes) {
			t.Fatalf("%v after %d nodes", q, n)
		}
	}
	if e != api.OK || q != space(blocks, nodes, blocks, nodes) {
		t.Fatalf("%v, %d after all were taken", q, e)
	}
	if got, e := quota.Take(q, 1, 0); got != q || e != api.ErrSpace {
		t.Errorf("one block more: %v, %d", got, e)
	}
	if got, e := quota.Take(q, 0, 1); got != q || e != api.ErrNodes {
		t.Errorf("one node more: %v, %d", got, e)
	}
	for n := blocks - 1; n >= 0; n-- {
		if q, e = quota.Take(q, -1, 0); e != api.OK || q != space(n, nodes, blocks, nodes) {
			t.Fatalf("%v, %d with %d blocks left", q, e, n)
		}
	}
	if got, e := quota.Take(q, -1, 0); got != q || e != api.ErrArg {
		t.Errorf("one block back of none: %v, %d", got, e)
	}
}

// P12.1: what a directory, files and a link have, taken and given back as the layers above do.
func TestNodes(t *testing.T) {
	q, _ := quota.New(6, 5)
	for _, x := range []struct {
		kind, size, sign int
		want             api.Space
		e                api.Errno
	}{
		{api.Dir, 0, 1, space(1, 1, 6, 5), api.OK},
		{api.File, 513, 1, space(3, 2, 6, 5), api.OK},
		{api.File, 0, 1, space(3, 3, 6, 5), api.OK},
		{api.Link, 9000, 1, space(3, 4, 6, 5), api.OK},
		{api.File, 1537, 1, space(3, 4, 6, 5), api.ErrSpace},
		{api.File, 1536, 1, space(6, 5, 6, 5), api.OK},
		{api.Link, 1, 1, space(6, 5, 6, 5), api.ErrNodes},
		{api.File, 513, -1, space(4, 4, 6, 5), api.OK},
		{api.File, 1, 1, space(5, 5, 6, 5), api.OK},
		{api.File, api.MaxFile, -1, space(5, 5, 6, 5), api.ErrArg},
	} {
		got, e := quota.Take(q, x.sign*quota.Blocks(x.kind, x.size), x.sign)
		if got != x.want || e != x.e {
			t.Fatalf("kind %d with %d bytes, times %d, of %v: %v, %d, want %v, %d", x.kind, x.size, x.sign, q, got, e, x.want, x.e)
		}
		q = got
	}
}

// R4: a space that is handed in is as it was after each call; R5: a call that is made again answers the same, whatever was
// called between.
func TestKept(t *testing.T) {
	for _, q := range []api.Space{space(3, 2, 10, 5), space(0, 0, 0, 0), space(11, 2, 10, 5), space(math.MinInt, -1, math.MaxInt, 5)} {
		before := q
		var first []string
		for round := range 3 {
			for blocks := -8; blocks <= 8; blocks++ {
				for nodes := -4; nodes <= 4; nodes++ {
					made, was := quota.New(blocks, nodes)
					got, e := quota.Take(q, blocks, nodes)
					s := fmt.Sprint(made, was, got, e, quota.Fine(q), quota.Blocks(nodes, blocks))
					if round == 0 {
						first = append(first, s)
					}
					if want := first[(blocks+8)*9+nodes+4]; s != want {
						t.Errorf("%v, %d, %d: first %s, then %s", q, blocks, nodes, want, s)
					}
					if q != before {
						t.Fatalf("%v was %v", q, before)
					}
				}
			}
		}
	}
}

// P12.1 and P12.2, of numbers of all kinds.
func FuzzQuota(f *testing.F) {
	f.Add(3, 2, 10, 5, 7, 3)
	f.Add(0, 0, 1, 1, 2, 2)
	f.Add(maxBlocks, maxNodes, maxBlocks, maxNodes, -maxBlocks, -maxNodes)
	f.Add(-1, maxNodes+1, maxBlocks+1, -1, maxBlocks+1, -maxBlocks-1)
	f.Add(math.MinInt, math.MaxInt, math.MaxInt, math.MinInt, math.MaxInt, math.MinInt)
	f.Fuzz(func(t *testing.T, usedBlocks, usedNodes, mostBlocks, mostNodes, blocks, nodes int) {
		q := space(usedBlocks, usedNodes, mostBlocks, mostNodes)
		counted(t, usedBlocks, blocks)
		counted(t, api.File, blocks)
		counted(t, api.File, usedBlocks)
		made(t, mostBlocks, mostNodes)
		made(t, blocks, nodes)
		fine(t, q)
		took(t, q, blocks, nodes)
		// One that is valid, whatever the numbers are.
		most, least := uint(maxBlocks+1), uint(maxNodes+1)
		b, n := int(uint(mostBlocks)%most), int(uint(mostNodes)%least)
		q = space(int(uint(usedBlocks)%uint(b+1)), int(uint(usedNodes)%uint(n+1)), b, n)
		fine(t, q)
		took(t, q, blocks, nodes)
		took(t, q, blocks%(maxBlocks+2), nodes%(maxNodes+2))
		took(t, q, b-q.Blocks, n-q.Nodes)
		took(t, q, -q.Blocks, -q.Nodes)
	})
}
