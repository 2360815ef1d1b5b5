package hnsw

import (
	"math"
	"slices"
	"testing"

	"lodestar/api"
)

// all is the filter that matches everything.
var all api.Filter

// hit gives a hit by its two numbers.
func hit(dist int64, id uint32) api.Hit {
	return api.Hit{Dist: dist, Id: id}
}

// at gives an item at a vector.
func at(id uint32, vec ...int32) api.Item {
	return api.Item{Id: id, Vec: vec}
}

// put puts an item on each of the parts, on that level: their Ids are 1, 2, 3 and so on, and their versions are, too.
func put(x *Index, level int, parts ...int32) *Index {
	for _, p := range parts {
		n := x.Len() + 1
		x.Put(at(uint32(n), p), level, uint64(n))
	}
	return x
}

// line gives an index by Square of nodes that are on the level 0 alone.
func line(links, width int, parts ...int32) *Index {
	return put(New(api.Square, links, width), 0, parts...)
}

// alike tells whether two nodes are; lists that are nil and that are empty are one and the same.
func alike(a, b api.Node) bool {
	return a.Item.Id == b.Item.Id && slices.Equal(a.Item.Vec, b.Item.Vec) && slices.Equal(a.Item.Tags, b.Item.Tags) &&
		a.From == b.From && a.Until == b.Until && slices.EqualFunc(a.Links, b.Links, slices.Equal[[]int])
}

// wantNodes fails the test unless the index has just the nodes want, and the entry.
func wantNodes(t *testing.T, x *Index, entry int, want ...api.Node) {
	t.Helper()
	got := x.Nodes()
	if !slices.EqualFunc(got, want, alike) {
		t.Errorf("the nodes are\n%v, not\n%v", got, want)
	}
	if x.Len() != len(want) || x.Entry() != entry {
		t.Errorf("there are %d and the entry %d, not %d and %d", x.Len(), x.Entry(), len(want), entry)
	}
}

// wantLinks fails the test unless the nodes have just these links on that level.
func wantLinks(t *testing.T, x *Index, level int, want ...[]int) {
	t.Helper()
	l := x.Nodes()
	if len(l) != len(want) {
		t.Fatalf("there are %d nodes, not %d", len(l), len(want))
	}
	for i, n := range l {
		var got []int
		if level < len(n.Links) {
			got = n.Links[level]
		}
		if !slices.Equal(got, want[i]) {
			t.Errorf("the node %d has on the level %d the links %v, not %v", i, level, got, want[i])
		}
	}
}

// wantUntils fails the test unless these are the nodes' Untils.
func wantUntils(t *testing.T, x *Index, want ...uint64) {
	t.Helper()
	var got []uint64
	for _, n := range x.Nodes() {
		got = append(got, n.Until)
	}
	if !slices.Equal(got, want) {
		t.Errorf("the Untils are %v, not %v", got, want)
	}
}

func wantEntry(t *testing.T, x *Index, want int) {
	t.Helper()
	if got := x.Entry(); got != want {
		t.Errorf("the entry is %d, not %d", got, want)
	}
}

func wantCut(t *testing.T, x *Index, id uint32, v uint64, want bool) {
	t.Helper()
	if got := x.Cut(id, v); got != want {
		t.Errorf("Cut(%d, %d) is %t", id, v, got)
	}
}

func wantSweep(t *testing.T, x *Index, want int, keep ...uint64) {
	t.Helper()
	if got := x.Sweep(keep); got != want {
		t.Errorf("Sweep(%v) is %d, not %d", keep, got, want)
	}
}

func wantSearch(t *testing.T, x *Index, q []int32, f api.Filter, k, width int, v uint64, want ...api.Hit) {
	t.Helper()
	if got := x.Search(q, f, k, width, v); !slices.Equal(got, want) {
		t.Errorf("Search(%v, %v, %d, %d, %d) is %v, not %v", q, f, k, width, v, got, want)
	}
}

// wantSame fails the test unless two indexes have the same nodes and the same entry.
func wantSame(t *testing.T, x, want *Index) {
	t.Helper()
	wantNodes(t, x, want.Entry(), want.Nodes()...)
}

func TestTheChaptersExamples(t *testing.T) {
	x := line(2, 4, 0, 5, 9)
	wantCut(t, x, 2, 4, true)
	wantSearch(t, x, []int32{4}, all, 2, 9, 4, hit(16, 1), hit(25, 3))
	wantSearch(t, x, []int32{4}, all, 2, 9, 3, hit(1, 2), hit(16, 1))
	wantSweep(t, x, 1)
}

func TestAnIndexWithoutNodes(t *testing.T) {
	for _, m := range []api.Metric{api.Square, api.Minus, 2, 255} {
		for _, n := range []int{math.MinInt, -1, 0, 1, 8, 9, 256, 257, math.MaxInt} {
			x := New(m, n, n)
			for range 2 {
				wantNodes(t, x, -1)
				wantCut(t, x, 0, 1, false)
				wantCut(t, x, 7, 0, false)
				wantSearch(t, x, []int32{1}, all, n, n, 1)
				wantSearch(t, x, nil, api.Filter{All: []string{""}}, 3, 9, 0)
				wantSweep(t, x, 0)
				wantSweep(t, x, 0, 0, 1, math.MaxUint64)
			}
			x.Put(at(7, 3), 1, 1)
			wantNodes(t, x, 0, api.Node{Item: at(7, 3), From: 1, Links: make([][]int, 2)})
		}
	}
}

// P12.1: numbers that are brought to their ranges

// many gives an index by Square of 300 nodes on two levels.
func many(links, width int) *Index {
	s := source(5)
	x := New(api.Square, links, width)
	for i := range 300 {
		x.Put(at(uint32(i+1), int32(s.below(900)), int32(s.below(900))), i%2, uint64(i+1))
	}
	return x
}

func TestLinksAreBroughtToTheirRange(t *testing.T) {
	for _, c := range [][2]int{{math.MinInt, 1}, {-1 << 32, 1}, {-1, 1}, {0, 1}, {9, 8}, {1<<32 + 3, 8}, {math.MaxInt, 8}} {
		wantSame(t, many(c[0], 20), many(c[1], 20))
	}
	for links := 1; links <= api.MaxLinks; links++ {
		most := [2]int{}
		for _, n := range many(links, 20).Nodes() {
			for level, l := range n.Links {
				most[level] = max(most[level], len(l))
			}
		}
		if most != [2]int{2 * links, links} {
			t.Errorf("with %d links there are at most %v on the levels", links, most)
		}
	}
}

func TestWidthIsBroughtToItsRange(t *testing.T) {
	for _, c := range [][2]int{{math.MinInt, 1}, {-1 << 32, 1}, {-1, 1}, {0, 1}, {257, 256}, {1<<32 + 3, 256}, {math.MaxInt, 256}} {
		wantSame(t, many(4, c[0]), many(4, c[1]))
	}
}

// crowded gives an index of n nodes, and of one more at (0): from there the nearest are a crowd, nearer to one another than to it, and the furthest is the only one on the other side.
func crowded(width, n int) *Index {
	x := New(api.Square, 2, width)
	x.Put(at(1, -5000), 0, 1)
	for i := range n - 1 {
		x.Put(at(uint32(i+2), int32(1000+i)), 0, 1)
	}
	x.Put(at(9999, 0), 0, 2)
	return x
}

func TestAsManyAsWidthAreLookedAt(t *testing.T) {
	for _, width := range []int{2, 3, 10, 100, 255, 256} {
		for more, want := range [][]int{{1, 0}, {1, 2}} {
			n := width + more
			if got := crowded(width, n).Nodes()[n].Links[0]; !slices.Equal(got, want) {
				t.Errorf("of %d, width %d: %v, not %v", n, width, got, want)
			}
		}
	}
}

func TestLevelsAreBroughtToTheirRange(t *testing.T) {
	for _, c := range []struct{ level, lists int }{
		{math.MinInt, 1}, {-1 << 32, 1}, {-1, 1}, {0, 1}, {1, 2}, {2, 3}, {3, 4},
		{api.MaxLevel, 5}, {api.MaxLevel + 1, 5}, {100, 5}, {1 << 32, 5}, {1<<32 + 1, 5}, {math.MaxInt, 5},
	} {
		x := New(api.Square, 2, 4)
		x.Put(at(1, 5), c.level, 1)
		wantNodes(t, x, 0, api.Node{Item: at(1, 5), From: 1, Links: make([][]int, c.lists)})
		x.Put(at(2, 6), c.level, 2)
		there, back := make([][]int, c.lists), make([][]int, c.lists)
		for i := range c.lists {
			there[i], back[i] = []int{1}, []int{0}
		}
		// Of one level, however it was asked for: the entry stays.
		wantNodes(t, x, 0, api.Node{Item: at(1, 5), From: 1, Links: there}, api.Node{Item: at(2, 6), From: 2, Links: back})
	}
}

// P12.1: Put

func TestANodeIsAsItWasPut(t *testing.T) {
	items := []api.Item{
		{Id: 7, Vec: []int32{1, 2}, Tags: []string{"a", "b"}},
		{Id: 0}, {Id: math.MaxUint32, Vec: []int32{}, Tags: []string{}},
		{Id: 1, Vec: []int32{1<<20 + 1, math.MinInt32}, Tags: []string{"b", "", "b", "a"}},
		{Id: 2, Vec: make([]int32, 17), Tags: make([]string, 9)},
	}
	for level, y := range items {
		for _, v := range []uint64{0, 1, 3, math.MaxUint64} {
			x := New(api.Minus, 4, 4)
			x.Put(y, level, v)
			wantNodes(t, x, 0, api.Node{Item: y, From: v, Links: make([][]int, level+1)})
		}
	}
}

func TestPutOfAnIdThatIsThereStill(t *testing.T) {
	x := line(4, 9, 0, 5, 9)
	x.Put(at(2, 7), 0, 8)
	wantUntils(t, x, 0, 8, 0, 0)
	if n := x.Nodes()[3]; n.From != 8 || n.Item.Id != 2 {
		t.Error(n)
	}
	// The one ahead stays as it was, and a node to be linked to.
	if n := x.Nodes()[1]; n.From != 2 || !slices.Equal(n.Item.Vec, []int32{5}) || !slices.Contains(n.Links[0], 3) {
		t.Error(n)
	}
	x.Put(at(2, 7), 0, 10)
	wantUntils(t, x, 0, 8, 0, 10, 0)
	x.Put(at(1, 1), 0, 10)
	wantUntils(t, x, 10, 8, 0, 10, 0, 0)
	x.Put(at(4, 1), 0, math.MaxUint64)
	wantUntils(t, x, 10, 8, 0, 10, 0, 0, 0)
	x.Put(at(4, 1), 0, math.MaxUint64)
	wantUntils(t, x, 10, 8, 0, 10, 0, 0, math.MaxUint64, 0)
}

func TestPutTwiceAtAVersion(t *testing.T) {
	x := New(api.Square, 4, 9)
	x.Put(at(1, 0), 0, 3)
	x.Put(at(1, 1), 0, 3)
	wantUntils(t, x, 3, 0)
	wantSearch(t, x, []int32{0}, all, 9, 9, 3, hit(1, 1))
	wantSearch(t, x, []int32{0}, all, 9, 9, 2)
}

func TestPutAtALesserVersion(t *testing.T) {
	x := New(api.Square, 4, 9)
	x.Put(at(1, 0), 0, 5)
	x.Put(at(1, 1), 0, 3)
	wantUntils(t, x, 3, 0)
	for _, v := range []uint64{3, 4, 5, 9} {
		wantSearch(t, x, []int32{0}, all, 9, 9, v, hit(1, 1))
	}
	wantSearch(t, x, []int32{0}, all, 9, 9, 2)
}

func TestPutOfAnIdThatWasCut(t *testing.T) {
	x := line(4, 9, 0, 5, 9)
	wantCut(t, x, 2, 6, true)
	x.Put(at(2, 5), 0, 8)
	wantUntils(t, x, 0, 6, 0, 0)
	wantCut(t, x, 2, 9, true)
	wantUntils(t, x, 0, 6, 0, 9)
}

func TestPutOfAnIdThatASweepTookAway(t *testing.T) {
	x := line(4, 9, 0, 5, 9)
	wantCut(t, x, 2, 6, true)
	wantSweep(t, x, 1)
	x.Put(at(2, 5), 0, 8)
	wantUntils(t, x, 0, 0, 0)
	wantSearch(t, x, []int32{5}, all, 9, 9, 8, hit(0, 2), hit(16, 3), hit(25, 1))
	x.Put(at(2, 6), 0, 9)
	wantUntils(t, x, 0, 0, 9, 0)
}

func TestTheVersionZeroEndsNothing(t *testing.T) {
	x := line(4, 9, 0)
	x.Put(at(1, 5), 0, 0)
	wantUntils(t, x, 0, 0)
	wantSearch(t, x, []int32{0}, all, 9, 9, 1, hit(0, 1), hit(25, 1))
	wantCut(t, x, 1, 0, true)
	wantCut(t, x, 1, 0, true)
	wantUntils(t, x, 0, 0)
	wantSweep(t, x, 0)
	x.Put(at(1, 9), 0, 7)
	wantUntils(t, x, 7, 7, 0)
	wantCut(t, x, 1, 8, true)
	wantUntils(t, x, 7, 7, 8)
	wantCut(t, x, 1, 0, false)
}

func TestTheEntryIsTheFirstOneOfTheGreatestLevel(t *testing.T) {
	x := New(api.Square, 2, 4)
	for i, c := range [][2]int{{0, 0}, {0, 0}, {2, 2}, {1, 2}, {2, 2}, {0, 2}, {3, 6}, {4, 7}, {4, 7}, {9, 7}, {0, 7}} {
		x.Put(at(uint32(i), int32(i)), c[0], 1)
		wantEntry(t, x, c[1])
	}
	for level := range 5 {
		x := New(api.Square, 2, 4)
		x.Put(at(1, 1), level, 1)
		for below := range level + 1 {
			x.Put(at(2, 2), below, 2)
			wantEntry(t, x, 0)
		}
		x.Put(at(3, 3), level+1, 3)
		wantEntry(t, x, []int{level + 2, level + 2, level + 2, level + 2, 0}[level])
	}
}

func TestTheEntryStaysWhenItIsCut(t *testing.T) {
	x := put(New(api.Square, 2, 4), 1, 0, 5, 9)
	wantCut(t, x, 1, 4, true)
	wantEntry(t, x, 0)
	x.Put(at(2, 3), 1, 5)
	wantEntry(t, x, 0)
}

func TestNewNodesAreLinkedBothWays(t *testing.T) {
	x := line(1, 1, 0, 5)
	wantLinks(t, x, 0, []int{1}, []int{0})
	put(x, 0, 9)
	wantLinks(t, x, 0, []int{1}, []int{0, 2}, []int{1})
	// The node at 5 would have three then: of those at 6, 9 and 0 that at 9 is nearer to that at 6 than to it.
	put(x, 0, 6)
	wantLinks(t, x, 0, []int{1}, []int{3, 0}, []int{1}, []int{1})
	put(x, 0, 10)
	wantLinks(t, x, 0, []int{1}, []int{3, 0}, []int{1, 4}, []int{1}, []int{2})
}

func TestANewNodeIsLinkedToAsManyAsLinks(t *testing.T) {
	for links := 1; links <= api.MaxLinks; links++ {
		x := put(New(api.Square, links, 100), 1, 0, 1, 2, 3, 4, 5, 6, 7, 8, 9, 10, 11)
		// With one link a node the level 1, which has no spine, falls apart.
		for level := range min(links, 2) {
			l := x.Nodes()[11].Links[level]
			if len(l) != links {
				t.Errorf("of %d links on the level %d: %v", links, level, l)
			}
			for i, j := range l {
				if j != 10-i {
					t.Errorf("of %d links on the level %d: %v", links, level, l)
				}
			}
		}
	}
}

func TestWhomANewNodeIsLinkedToIsChosen(t *testing.T) {
	// From (0) the nodes at 10, 11, -12: that at 11 is nearer to that at 10, so it comes last.
	wantLinks(t, line(2, 9, 10, 11, -12, 0), 0, []int{1, 2, 3}, []int{0, 2}, []int{0, 1, 3}, []int{0, 2})
	wantLinks(t, line(3, 9, 10, 11, -12, 0), 0, []int{1, 2, 3}, []int{0, 2, 3}, []int{0, 1, 3}, []int{0, 2, 1})
}

func TestTheMostLinksOnEachLevel(t *testing.T) {
	// Each new node is nearest to the first, and on another side of it: all are linked to it, as long as it has room.
	vecs := [][]int32{{0, 0, 0}, {9, 0, 0}, {-9, 0, 0}, {0, 9, 0}, {0, -9, 0}, {0, 0, 9}, {0, 0, -9}}
	x := New(api.Square, 2, 1)
	for i, v := range vecs {
		x.Put(at(uint32(i), v...), 1, 1)
		x.Put(at(uint32(100+i), 1000, 1000, int32(1000+i)), 0, 1)
	}
	first := x.Nodes()[0]
	if len(first.Links[0]) != 4 || len(first.Links[1]) != 2 {
		t.Error(first)
	}
	// Equally far: those of the lesser places stay.
	x = New(api.Square, 2, 9)
	for i, v := range vecs[:6] {
		x.Put(at(uint32(i), v...), 1, 1)
		first := x.Nodes()[0]
		if want := []int{1, 2, 3, 4, 5}[:min(i, 4)]; !slices.Equal(first.Links[0], want) {
			t.Errorf("on the level 0, behind %d: %v", i, first.Links[0])
		}
		if want := []int{1, 2}[:min(i, 2)]; !slices.Equal(first.Links[1], want) {
			t.Errorf("on the level 1, behind %d: %v", i, first.Links[1])
		}
	}
}

func TestLinksOnTheLevelsThatBothHave(t *testing.T) {
	x := New(api.Square, 4, 9)
	for i, level := range []int{2, 0, 1, 4, 3} {
		x.Put(at(uint32(i), int32(10*i)), level, 1)
	}
	wantLinks(t, x, 0, []int{1, 2, 3, 4}, []int{0, 2, 3, 4}, []int{1, 0, 3, 4}, []int{2, 1, 0, 4}, []int{3, 2, 1, 0})
	wantLinks(t, x, 1, []int{2, 3, 4}, nil, []int{0, 3, 4}, []int{2, 0, 4}, []int{3, 2, 0})
	wantLinks(t, x, 2, []int{3, 4}, nil, nil, []int{0, 4}, []int{3, 0})
	wantLinks(t, x, 3, nil, nil, nil, []int{4}, []int{3})
	wantLinks(t, x, 4, nil, nil, nil, nil, nil)
	wantEntry(t, x, 3)
}

// far gives an index in which on the level 0 nothing that is near to the entry at (0, 0) leads to the node at (1000, 0); both are on the levels up to level.
func far(level int) *Index {
	x := New(api.Square, 1, 1)
	x.Put(at(1, 0, 0), level, 1)
	x.Put(at(2, 0, 1), 0, 1)
	x.Put(at(3, 1000, 0), level, 1)
	x.Put(at(4, 0, -1), 0, 1)
	return x
}

func TestAboveItsLevelsTheNearestIsGoneTo(t *testing.T) {
	for level := range 5 {
		x := far(level)
		wantLinks(t, x, 0, []int{1, 3}, []int{0}, []int{0}, []int{0})
		for above := 1; above <= level; above++ {
			wantLinks(t, x, above, []int{2}, nil, []int{0}, nil)
		}
		for asked := range level + 1 {
			x := far(level)
			x.Put(at(5, 990, 0), asked, 1)
			want := []int{2}
			if level == 0 {
				want = []int{0}
			}
			if got := x.Nodes()[4].Links[0]; !slices.Equal(got, want) {
				t.Errorf("levels %d and %d: %v, not %v", level, asked, got, want)
			}
		}
	}
}

func TestNodesThatAreGoneAreLinkedStill(t *testing.T) {
	x := line(2, 9, 0, 5, 9)
	for id := range uint32(3) {
		wantCut(t, x, id+1, 4, true)
	}
	x.Put(at(4, 4), 0, 5)
	wantLinks(t, x, 0, []int{1, 2, 3}, []int{0, 2, 3}, []int{1, 0}, []int{1, 0})
}

func TestVectorsThatAreNotFarAreAsNearAsZero(t *testing.T) {
	x := New(api.Square, 1, 9)
	x.Put(at(1, 5), 0, 1)
	x.Put(at(2, 7), 0, 1)
	x.Put(at(3, 1, 1), 0, 1)
	// By the places, as all are 0 far from it.
	wantLinks(t, x, 0, []int{1, 2}, []int{0}, []int{0})
	y := New(9, 1, 9)
	put(y, 0, 5, 7, 9)
	wantLinks(t, y, 0, []int{1, 2}, []int{0}, []int{0})
}

// P12.2

func TestCut(t *testing.T) {
	x := line(2, 9, 0, 5, 9)
	want := x.Nodes()
	for _, id := range []uint32{0, 4, math.MaxUint32} {
		wantCut(t, x, id, 4, false)
	}
	wantNodes(t, x, 0, want...)
	for k, i := range []int{1, 0, 2} {
		id, v := uint32(i+1), []uint64{4, 1, math.MaxUint64}[k]
		wantCut(t, x, id, v, true)
		want[i].Until = v
		wantNodes(t, x, 0, want...)
		for _, again := range []uint64{0, v, 9} {
			wantCut(t, x, id, again, false)
		}
		wantNodes(t, x, 0, want...)
	}
}

func TestCutOfOneThatWasPutAgain(t *testing.T) {
	x := line(2, 9, 0, 5)
	x.Put(at(1, 1), 0, 3)
	wantCut(t, x, 1, 4, true)
	wantUntils(t, x, 3, 0, 4)
	wantCut(t, x, 1, 5, false)
	x.Put(at(1, 2), 0, 6)
	wantCut(t, x, 1, 7, true)
	wantCut(t, x, 1, 8, false)
	wantUntils(t, x, 3, 0, 4, 7)
}

func TestIdsAtTheEndsOfTheirRange(t *testing.T) {
	x := New(api.Square, 2, 9)
	for i, id := range []uint32{0, math.MaxUint32, 1 << 31} {
		wantCut(t, x, id, 1, false)
		x.Put(at(id, int32(i)), 0, 1)
	}
	wantSearch(t, x, []int32{0}, all, 9, 9, 1, hit(0, 0), hit(1, math.MaxUint32), hit(4, 1<<31))
	wantCut(t, x, math.MaxUint32, 2, true)
	wantCut(t, x, 0, 3, true)
	wantUntils(t, x, 3, 2, 0)
}

func TestLenNodesAndEntry(t *testing.T) {
	x := New(api.Square, 1, 1)
	for i := range 300 {
		wantEntry(t, x, min(i, 1)-1)
		x.Put(at(uint32(i%100), int32(i)), 0, uint64(i+1))
		if x.Len() != i+1 {
			t.Errorf("Len is %d, not %d", x.Len(), i+1)
		}
	}
	for i, n := range x.Nodes() {
		if n.Item.Id != uint32(i%100) || n.Item.Vec[0] != int32(i) || n.From != uint64(i+1) || (n.Until == 0) != (i >= 200) {
			t.Errorf("the node %d is %v", i, n)
		}
	}
}
