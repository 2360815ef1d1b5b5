package hnsw

import (
	"math"
	"slices"
	"testing"

	"lodestar/api"
)

// P12.4

func TestNoneGoes(t *testing.T) {
	x := put(New(api.Square, 1, 4), 1, 0, 5, 9, 7)
	want := x.Nodes()
	wantSweep(t, x, 0)
	wantSweep(t, x, 0, 0, 1, 2, 9, math.MaxUint64)
	wantNodes(t, x, 0, want...)
	wantCut(t, x, 1, 6, true)
	want[0].Until = 6
	wantSweep(t, x, 0, 5)
	// Nothing is linked anew either.
	wantNodes(t, x, 0, want...)
}

func TestWhichNodesGo(t *testing.T) {
	for _, c := range []struct {
		keep []uint64
		went int
	}{
		{nil, 1}, {[]uint64{}, 1}, {[]uint64{0}, 1}, {[]uint64{2}, 1}, {[]uint64{3}, 0}, {[]uint64{4}, 0}, {[]uint64{5}, 0}, {[]uint64{6}, 1}, {[]uint64{7}, 1}, {[]uint64{math.MaxUint64}, 1},
		{[]uint64{2, 6}, 1}, {[]uint64{6, 2}, 1}, {[]uint64{6, 3, 2}, 0}, {[]uint64{9, 9, 5, 1, 5}, 0}, {[]uint64{0, 0, 6, 6}, 1}, {[]uint64{math.MaxUint64, 5}, 0}, {[]uint64{5, 0}, 0},
	} {
		x := New(api.Square, 2, 4)
		x.Put(at(1, 0), 0, 1)
		x.Put(at(2, 5), 0, 3)
		wantCut(t, x, 2, 6, true)
		x.Put(at(3, 9), 0, 7)
		want := x.Nodes()
		wantSweep(t, x, c.went, c.keep...)
		if c.went == 0 {
			wantNodes(t, x, 0, want...)
			continue
		}
		want = slices.Delete(want, 1, 2)
		want[0].Links, want[1].Links = [][]int{{1}}, [][]int{{0}}
		wantNodes(t, x, 0, want...)
	}
}

func TestOneThatWasNeverThereGoes(t *testing.T) {
	x := New(api.Square, 2, 4)
	for i, v := range []uint64{5, 5, 3, 0, 9} {
		x.Put(at(1, int32(i)), 0, v)
	}
	// From 5 to 5, from 5 to 3, from 3 (ended not by 0, but by 9), from 0 to 9, and from 9 on.
	wantUntils(t, x, 5, 3, 9, 9, 0)
	wantSweep(t, x, 2, 0, 1, 2, 3, 4, 5, 6, 7, 8, 9)
	wantUntils(t, x, 9, 9, 0)
	wantSweep(t, x, 1, 2, 9)
	wantUntils(t, x, 9, 0)
	if l := x.Nodes(); l[0].From != 0 || l[1].From != 9 {
		t.Error(l)
	}
}

func TestWhatStaysIsAsItWas(t *testing.T) {
	x := New(api.Square, 2, 4)
	items := []api.Item{
		{Id: 8, Vec: []int32{1, 2}, Tags: []string{"a"}}, {Id: 3, Vec: []int32{5, 5}}, {Id: 8, Vec: []int32{4, 4}, Tags: []string{"c", "b"}},
		{Id: 1, Vec: []int32{7, 7}}, {Id: 5}, {Id: 3, Vec: []int32{1, 1}, Tags: []string{"d"}},
	}
	for i, level := range []int{1, 3, 0, 2, 3, 4} {
		x.Put(items[i], level, uint64(10*i+10))
	}
	wantCut(t, x, 1, 70, true)
	wantUntils(t, x, 30, 60, 0, 70, 0, 0)
	wantSweep(t, x, 1, 60, 15)
	want := []api.Node{
		{Item: items[0], From: 10, Until: 30, Links: make([][]int, 2)},
		{Item: items[2], From: 30, Links: make([][]int, 1)},
		{Item: items[3], From: 40, Until: 70, Links: make([][]int, 3)},
		{Item: items[4], From: 50, Links: make([][]int, 4)},
		{Item: items[5], From: 60, Links: make([][]int, 5)},
	}
	for i, n := range x.Nodes() {
		if len(n.Links) != len(want[i].Links) {
			t.Errorf("the node %d is on %d levels", i, len(n.Links))
		}
		// Which links there are is a matter of other tests.
		want[i].Links = n.Links
	}
	wantNodes(t, x, 4, want...)
}

func TestLinksThatStayComeFirst(t *testing.T) {
	x := line(1, 9, 0, 10, 20, 30)
	wantLinks(t, x, 0, []int{1}, []int{0, 2}, []int{1, 3}, []int{2})
	wantCut(t, x, 2, 5, true)
	wantSweep(t, x, 1)
	// That at 20 had a link to that at 10, and behind it one to that at 30.
	wantLinks(t, x, 0, []int{1}, []int{2, 0}, []int{1})
}

func TestOneThatWentIsGoneThroughOnce(t *testing.T) {
	x := line(1, 9, 0, 10, 20, 30)
	wantCut(t, x, 2, 5, true)
	wantCut(t, x, 3, 5, true)
	wantSweep(t, x, 2)
	wantLinks(t, x, 0, nil, nil)
	// The spine leads on.
	wantSearch(t, x, []int32{0}, all, 9, 9, 5, hit(0, 1), hit(900, 4))
}

func TestAllGo(t *testing.T) {
	x := put(New(api.Square, 2, 4), 1, 0, 5, 9)
	for id := range uint32(3) {
		wantCut(t, x, id+1, 4, true)
	}
	wantSweep(t, x, 0, 3)
	wantSweep(t, x, 3)
	wantNodes(t, x, -1)
	wantSweep(t, x, 0)
	wantSearch(t, x, []int32{0}, all, 9, 9, 4)
	wantCut(t, x, 1, 5, false)
	x.Put(at(2, 7), 0, 6)
	wantNodes(t, x, 0, api.Node{Item: at(2, 7), From: 6, Links: make([][]int, 1)})
	wantSearch(t, x, []int32{0}, all, 9, 9, 6, hit(49, 2))
}

func TestTheEntryBehindASweep(t *testing.T) {
	for _, c := range []struct {
		levels []int
		cut    []int
		entry  int
	}{
		{[]int{2, 1, 2, 0}, []int{0}, 1},
		{[]int{2, 1, 1, 0}, []int{0}, 0},
		{[]int{2, 0, 1, 1}, []int{0}, 1},
		{[]int{0, 1, 2, 3}, []int{3}, 2},
		{[]int{0, 1, 2, 3}, []int{0}, 2},
		{[]int{0, 1, 2, 2}, []int{0, 1}, 0},
		{[]int{4, 4, 4, 4}, []int{0, 2}, 0},
		{[]int{3, 0, 0, 0}, []int{0, 1}, 0},
		{[]int{0, 0, 4, 3}, []int{2}, 2},
	} {
		x := New(api.Square, 2, 4)
		for i, level := range c.levels {
			x.Put(at(uint32(i), int32(i)), level, 1)
		}
		for _, i := range c.cut {
			wantCut(t, x, uint32(i), 2, true)
		}
		wantSweep(t, x, len(c.cut))
		wantEntry(t, x, c.entry)
		top := len(x.Nodes()[c.entry].Links) - 1
		x.Put(at(7, 7), top, 3)
		wantEntry(t, x, c.entry)
		x.Put(at(8, 8), top+1, 3)
		if top < api.MaxLevel {
			wantEntry(t, x, x.Len()-1)
		}
	}
}

func TestEachLevelIsMendedByItsOwnLinks(t *testing.T) {
	x := New(api.Square, 1, 9)
	for i, level := range []int{1, 1, 0, 1} {
		x.Put(at(uint32(i+1), int32(10*i)), level, 1)
	}
	wantLinks(t, x, 0, []int{1}, []int{0, 2}, []int{1, 3}, []int{2})
	wantLinks(t, x, 1, []int{1}, []int{0}, nil, []int{1})
	wantCut(t, x, 2, 2, true)
	wantSweep(t, x, 1)
	wantLinks(t, x, 0, []int{1}, []int{2, 0}, []int{1})
	// There that at 30 had a link to that at 10, and that one a link to that at 0.
	wantLinks(t, x, 1, nil, nil, []int{0})
}

func TestTheMostLinksBehindASweep(t *testing.T) {
	// That at 9 has links to those at 5 and 10, and that at 5 has links to those at 6 and 0.
	x := line(1, 1, 0, 5, 9, 6, 10)
	wantLinks(t, x, 0, []int{1}, []int{3, 0}, []int{1, 4}, []int{1}, []int{2})
	wantCut(t, x, 2, 6, true)
	wantSweep(t, x, 1)
	wantLinks(t, x, 0, []int{2}, []int{3, 2}, []int{0}, []int{1})
	// With that at 15 in place of that at 10, that at 6 comes behind it, but is nearer.
	x = line(1, 1, 0, 5, 9, 6, 15)
	wantLinks(t, x, 0, []int{1}, []int{3, 0}, []int{1, 4}, []int{1}, []int{2})
	wantCut(t, x, 2, 6, true)
	wantSweep(t, x, 1)
	wantLinks(t, x, 0, []int{2}, []int{2, 3}, []int{0}, []int{1})
}

func TestTwiceSwept(t *testing.T) {
	x := line(2, 9, 0, 10, 20, 30, 40)
	wantCut(t, x, 2, 6, true)
	wantSweep(t, x, 1)
	want := x.Nodes()
	wantSweep(t, x, 0)
	wantNodes(t, x, 0, want...)
	wantCut(t, x, 4, 7, true)
	wantSweep(t, x, 0, 6)
	wantSweep(t, x, 1, 7)
	wantSweep(t, x, 0)
	wantLinks(t, x, 0, []int{1, 2}, []int{0, 2}, []int{1, 0})
	wantSearch(t, x, []int32{20}, all, 9, 9, 7, hit(0, 3), hit(400, 1), hit(400, 5))
}

func TestPutCutAndSearchBehindASweep(t *testing.T) {
	x := line(2, 9, 0, 10, 20, 30)
	wantCut(t, x, 1, 5, true)
	x.Put(at(3, 21), 0, 6)
	wantSweep(t, x, 2, 7)
	wantUntils(t, x, 0, 0, 0)
	wantCut(t, x, 1, 8, false)
	wantCut(t, x, 4, 8, true)
	wantUntils(t, x, 0, 8, 0)
	x.Put(at(3, 22), 0, 9)
	wantUntils(t, x, 0, 8, 9, 0)
	wantSearch(t, x, []int32{10}, all, 9, 9, 8, hit(0, 2), hit(121, 3))
	wantSearch(t, x, []int32{10}, all, 9, 9, 9, hit(0, 2), hit(144, 3))
	x.Put(at(1, 0), 2, 10)
	wantEntry(t, x, 4)
	wantSearch(t, x, []int32{10}, all, 9, 9, 10, hit(0, 2), hit(100, 1), hit(144, 3))
	wantSweep(t, x, 2)
	wantEntry(t, x, 2)
	wantUntils(t, x, 0, 0, 0)
	wantCut(t, x, 3, 11, true)
	wantUntils(t, x, 0, 11, 0)
}

func TestNumbersOfNewHoldBehindASweep(t *testing.T) {
	for links := 1; links <= api.MaxLinks; links++ {
		x := New(api.Square, links, 256)
		put(x, 0, 500, 600)
		wantCut(t, x, 1, 3, true)
		wantSweep(t, x, 1)
		for i := range int32(30) {
			x.Put(at(uint32(i+10), i), 0, 4)
		}
		if l := x.Nodes()[30].Links[0]; len(l) != links {
			t.Errorf("of %d links: %v", links, l)
		}
		most := 0
		for _, n := range x.Nodes() {
			most = max(most, len(n.Links[0]))
		}
		if most != 2*links {
			t.Errorf("of %d links: at most %d", links, most)
		}
	}
	for more, want := range [][]int{{1, 0}, {1, 2}} {
		x := New(api.Square, 2, 9)
		x.Put(at(1, 3), 0, 1)
		wantCut(t, x, 1, 2, true)
		wantSweep(t, x, 1)
		x.Put(at(1, -5000), 0, 3)
		for i := range 8 + more {
			x.Put(at(uint32(i+2), int32(1000+i)), 0, 3)
		}
		x.Put(at(99, 0), 0, 3)
		if got := x.Nodes()[9+more].Links[0]; !slices.Equal(got, want) {
			t.Errorf("%v, not %v", got, want)
		}
	}
}
