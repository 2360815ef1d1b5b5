package hnsw

import (
	"math"
	"testing"

	"lodestar/api"
)

// squares gives the hits for (0) of items 1, 2, 3 and so on at 0, 1, 2 and so on.
func squares(n int) []api.Hit {
	l := make([]api.Hit, n)
	for i := range l {
		l[i] = hit(int64(i)*int64(i), uint32(i+1))
	}
	return l
}

// row gives an index of n such items, all from version 1 on.
func row(n int) *Index {
	x := New(api.Square, 4, 8)
	for i := range n {
		x.Put(at(uint32(i+1), int32(i)), i%2, 1)
	}
	return x
}

// P12.3

func TestTheFirstHits(t *testing.T) {
	x := row(300)
	for _, c := range [][2]int{
		{math.MinInt, 0}, {-1 << 32, 0}, {-1, 0}, {0, 0}, {1, 1}, {2, 2}, {9, 9},
		{api.MaxK, 32}, {api.MaxK + 1, 33}, {255, 255}, {api.MaxWidth, 256}, {api.MaxWidth + 1, 256}, {1 << 32, 256}, {math.MaxInt, 256},
	} {
		// A width that is less than k is as much as k; so is one below 1.
		for _, width := range []int{math.MinInt, -1, 0, 1, c[0] - 1, c[0], c[0] + 1, 100, 256, 257, math.MaxInt} {
			wantSearch(t, x, []int32{0}, all, c[0], width, 1, squares(c[1])...)
		}
	}
}

func TestMoreThanAreThereAreAskedFor(t *testing.T) {
	x := row(5)
	for k := range 9 {
		wantSearch(t, x, []int32{0}, all, k, 0, 1, squares(min(k, 5))...)
	}
}

func TestWhatIsThereAtAVersion(t *testing.T) {
	x := New(api.Square, 2, 4)
	x.Put(at(1, 0), 0, 3)
	x.Put(at(2, 1), 0, 5)
	x.Put(at(1, 2), 0, 7)
	wantCut(t, x, 2, 9, true)
	x.Put(at(3, 3), 0, 11)
	wantCut(t, x, 1, math.MaxUint64, true)
	for v, want := range map[uint64][]api.Hit{
		0: nil, 1: nil, 2: nil, 3: {hit(0, 1)}, 4: {hit(0, 1)},
		5: {hit(0, 1), hit(1, 2)}, 6: {hit(0, 1), hit(1, 2)},
		7: {hit(1, 2), hit(4, 1)}, 8: {hit(1, 2), hit(4, 1)},
		9: {hit(4, 1)}, 10: {hit(4, 1)}, 11: {hit(4, 1), hit(9, 3)}, 12: {hit(4, 1), hit(9, 3)},
		math.MaxUint64 - 1: {hit(4, 1), hit(9, 3)}, math.MaxUint64: {hit(9, 3)},
	} {
		for range 2 {
			wantSearch(t, x, []int32{0}, all, 9, 9, v, want...)
		}
	}
}

func TestWhatIsPutAtTheEndsOfTheVersions(t *testing.T) {
	x := New(api.Square, 2, 4)
	x.Put(at(1, 0), 0, 0)
	x.Put(at(2, 1), 0, math.MaxUint64)
	wantSearch(t, x, []int32{0}, all, 9, 9, 0, hit(0, 1))
	wantSearch(t, x, []int32{0}, all, 9, 9, math.MaxUint64-1, hit(0, 1))
	wantSearch(t, x, []int32{0}, all, 9, 9, math.MaxUint64, hit(0, 1), hit(1, 2))
}

func TestFilters(t *testing.T) {
	x := New(api.Square, 2, 4)
	for i, l := range [][]string{{"a", "b"}, {"b"}, {}, {"a", "c"}, {"b", "a", "b"}} {
		x.Put(api.Item{Id: uint32(i + 1), Vec: []int32{int32(i)}, Tags: l}, 0, 1)
	}
	q := []int32{0}
	wantSearch(t, x, q, all, 9, 9, 1, squares(5)...)
	wantSearch(t, x, q, api.Filter{All: []string{}, Any: []string{}, None: []string{}}, 9, 9, 1, squares(5)...)
	wantSearch(t, x, q, api.Filter{None: []string{"z"}}, 9, 9, 1, squares(5)...)
	wantSearch(t, x, q, api.Filter{All: []string{"z"}}, 9, 9, 1)
	wantSearch(t, x, q, api.Filter{All: []string{"a", "b"}}, 9, 9, 1, hit(0, 1), hit(16, 5))
	wantSearch(t, x, q, api.Filter{All: []string{"b", "a"}}, 9, 9, 1, hit(0, 1), hit(16, 5))
	wantSearch(t, x, q, api.Filter{Any: []string{"c", "z"}}, 9, 9, 1, hit(9, 4))
	wantSearch(t, x, q, api.Filter{None: []string{"b"}}, 9, 9, 1, hit(4, 3), hit(9, 4))
	wantSearch(t, x, q, api.Filter{None: []string{"b"}}, 1, 9, 1, hit(4, 3))
	wantSearch(t, x, q, api.Filter{All: []string{"a"}, None: []string{"a"}}, 9, 9, 1)
	wantCut(t, x, 5, 2, true)
	wantSearch(t, x, q, api.Filter{All: []string{"a", "b"}}, 9, 9, 2, hit(0, 1))
}

func TestWhatIsNotToldIsLookedAtAllTheSame(t *testing.T) {
	x := New(api.Square, 2, 4)
	x.Put(api.Item{Id: 1, Vec: []int32{5}, Tags: []string{"a"}}, 0, 1)
	x.Put(at(2, 6), 0, 1)
	x.Put(at(3, 7), 0, 1)
	wantCut(t, x, 2, 2, true)
	q := []int32{6}
	// Of as many as the width the nearest is the one that was cut.
	wantSearch(t, x, q, all, 1, 1, 2)
	wantSearch(t, x, q, all, 1, 1, 1, hit(0, 2))
	wantSearch(t, x, q, all, 1, 2, 2, hit(1, 1))
	wantSearch(t, x, q, all, 2, 1, 2, hit(1, 1))
	wantSearch(t, x, q, all, 2, 3, 2, hit(1, 1), hit(1, 3))
	none := api.Filter{None: []string{"a"}}
	wantSearch(t, x, q, none, 1, 2, 2)
	wantSearch(t, x, q, none, 2, 0, 1, hit(0, 2))
	wantSearch(t, x, q, none, 1, 3, 2, hit(1, 3))
}

func TestVectorsThatAreNotFarAreNotTold(t *testing.T) {
	x := New(api.Square, 2, 4)
	x.Put(at(1, 1, 1), 0, 1)
	x.Put(at(2, 5), 0, 1)
	x.Put(at(3), 0, 1)
	x.Put(at(4, 1<<20+1), 0, 1)
	x.Put(at(5, 6), 0, 1)
	wantSearch(t, x, []int32{5}, all, 9, 9, 1, hit(0, 2), hit(1, 5))
	wantSearch(t, x, []int32{0, 0}, all, 9, 9, 1, hit(2, 1))
	for _, q := range [][]int32{nil, {}, {1, 1, 1}, {1<<20 + 1}, {-1<<20 - 1}, {math.MinInt32}, make([]int32, 17)} {
		wantSearch(t, x, q, all, 9, 9, 1)
	}
	// They are met as if they were 0 far: ahead of all others.
	wantSearch(t, x, []int32{6}, all, 1, 3, 1)
	wantSearch(t, x, []int32{6}, all, 1, 4, 1, hit(0, 5))
	wantSearch(t, x, []int32{5}, all, 2, 4, 1, hit(0, 2))
}

func TestEachMetric(t *testing.T) {
	for m, want := range map[api.Metric][]api.Hit{
		api.Square: {hit(4, 2), hit(9, 1), hit(13, 3)},
		api.Minus:  {hit(-13, 3), hit(-2, 1), hit(-1, 2)},
		2:          nil,
		255:        nil,
	} {
		x := New(m, 2, 4)
		x.Put(at(1, 2, -2), 0, 1)
		x.Put(at(2, 0, 1), 0, 1)
		x.Put(at(3, 5, 3), 0, 1)
		wantSearch(t, x, []int32{2, 1}, all, 9, 9, 1, want...)
	}
}

func TestHitsThatAreEquallyFarAreInTheOrderOfTheirIds(t *testing.T) {
	x := New(api.Square, 4, 9)
	for _, id := range []uint32{9, 3, 7, math.MaxUint32, 0} {
		x.Put(at(id, 5), 0, 1)
	}
	x.Put(at(1, 4), 0, 1)
	x.Put(at(2, 6), 0, 1)
	q := []int32{5}
	wantSearch(t, x, q, all, 9, 9, 1, hit(0, 0), hit(0, 3), hit(0, 7), hit(0, 9), hit(0, math.MaxUint32), hit(1, 1), hit(1, 2))
	wantSearch(t, x, q, all, 3, 9, 1, hit(0, 0), hit(0, 3), hit(0, 7))
	// Those that are found are the first ones by their places.
	wantSearch(t, x, q, all, 2, 2, 1, hit(0, 3), hit(0, 9))
	wantSearch(t, x, q, all, 2, 3, 1, hit(0, 3), hit(0, 7))
	wantSearch(t, x, q, all, 1, 3, 1, hit(0, 3))
}

func TestTheUpperLevelsAreGoneDown(t *testing.T) {
	q := []int32{999, 0}
	for level := range 5 {
		want := hit(1, 3)
		if level == 0 {
			want = hit(999*999, 1)
		}
		x := far(level)
		wantSearch(t, x, q, all, 1, 1, 1, want)
		wantSearch(t, x, q, all, 1, 4, 1, hit(1, 3))
		// What is gone down from is one node, whatever the width: from it alone two are found.
		if level > 0 {
			wantSearch(t, x, q, all, 2, 2, 1, hit(1, 3), hit(999*999, 1))
		}
	}
}

func TestSearchingChangesNothing(t *testing.T) {
	x := row(40)
	want := x.Nodes()
	for i := range 40 {
		x.Search([]int32{int32(i)}, all, i, i, uint64(i))
	}
	wantNodes(t, x, 1, want...)
}
