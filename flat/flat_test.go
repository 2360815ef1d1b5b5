package flat

import (
	"math"
	"slices"
	"strings"
	"testing"

	"lodestar/api"
)

// hit gives a hit by its two numbers, as the chapter writes it.
func hit(dist int64, id uint32) api.Hit {
	return api.Hit{Dist: dist, Id: id}
}

// item gives an item without tags.
func item(id uint32, vec ...int32) api.Item {
	return api.Item{Id: id, Vec: vec}
}

// tagged gives an item at (x) with tags.
func tagged(id uint32, x int32, tags ...string) api.Item {
	return api.Item{Id: id, Vec: []int32{x}, Tags: tags}
}

// at gives a vector of n parts that are all x.
func at(n int, x int32) []int32 {
	return slices.Repeat([]int32{x}, n)
}

// of gives items at one part each, numbered from 1 on.
func of(parts ...int32) []api.Item {
	var l []api.Item
	for i, x := range parts {
		l = append(l, item(uint32(i+1), x))
	}
	return l
}

// turned gives l the other way round.
func turned[T any](l []T) []T {
	back := slices.Clone(l)
	slices.Reverse(back)
	return back
}

// wantRank fails the test unless Rank gives just want.
func wantRank(t *testing.T, m api.Metric, l []api.Item, q []int32, f api.Filter, want ...api.Hit) {
	t.Helper()
	if got := Rank(m, l, q, f); !slices.Equal(got, want) {
		t.Errorf("Rank(%d, %v, %v, %q) is %v, not %v", m, l, q, f, got, want)
	}
}

// wantSearch fails the test unless Search, by Square and without a filter, gives just want.
func wantSearch(t *testing.T, l []api.Item, q []int32, k int, want ...api.Hit) {
	t.Helper()
	if got := Search(api.Square, l, q, api.Filter{}, k); !slices.Equal(got, want) {
		t.Errorf("Search of %d items at %v, k %d, is %v, not %v", len(l), q, k, got, want)
	}
}

// wantAfter fails the test unless After, by Square and without a filter, gives just want.
func wantAfter(t *testing.T, l []api.Item, q []int32, last api.Hit, k int, want ...api.Hit) {
	t.Helper()
	if got := After(api.Square, l, q, api.Filter{}, last, k); !slices.Equal(got, want) {
		t.Errorf("After %v of %d items at %v, k %d, is %v, not %v", last, len(l), q, k, got, want)
	}
}

// wantNothing fails the test if any of the three calls finds anything.
func wantNothing(t *testing.T, m api.Metric, l []api.Item, q []int32, f api.Filter) {
	t.Helper()
	wantRank(t, m, l, q, f)
	if got := Search(m, l, q, f, 9); len(got) > 0 {
		t.Errorf("Search(%d, %v, %v, %q) found %v", m, l, q, f, got)
	}
	if got := After(m, l, q, f, hit(math.MinInt64, 0), 9); len(got) > 0 {
		t.Errorf("After(%d, %v, %v, %q) found %v", m, l, q, f, got)
	}
}

// wantAll fails the test unless each of the three calls finds just want, which is in order and short.
func wantAll(t *testing.T, m api.Metric, l []api.Item, q []int32, f api.Filter, want ...api.Hit) {
	t.Helper()
	wantRank(t, m, l, q, f, want...)
	if got := Search(m, l, q, f, api.MaxWidth); !slices.Equal(got, want) {
		t.Errorf("Search(%d, %v, %v, %q) is %v, not %v", m, l, q, f, got, want)
	}
	if got := After(m, l, q, f, hit(math.MinInt64, 0), api.MaxWidth); !slices.Equal(got, want) {
		t.Errorf("After(%d, %v, %v, %q) is %v, not %v", m, l, q, f, got, want)
	}
}

func TestTheChaptersExample(t *testing.T) {
	l, q := of(0, 3, 1), []int32{1}
	wantRank(t, api.Square, l, q, api.Filter{}, hit(0, 3), hit(1, 1), hit(4, 2))
	wantSearch(t, l, q, 2, hit(0, 3), hit(1, 1))
	wantAfter(t, l, q, hit(1, 1), 2, hit(4, 2))
}

// P10.1, and of the other two what is wanted

func TestOfNoItemsNothingIsFound(t *testing.T) {
	for _, l := range [][]api.Item{nil, {}, of(1, 2)[:0]} {
		for _, m := range []api.Metric{api.Square, api.Minus} {
			wantNothing(t, m, l, []int32{1}, api.Filter{})
			wantNothing(t, m, l, nil, api.Filter{All: []string{"a"}})
		}
	}
}

func TestEachMetric(t *testing.T) {
	l := []api.Item{item(1, 0, 0), item(2, 4, 1), item(3, -1, 2), item(4, 1, 1)}
	q := []int32{1, 2}
	wantAll(t, api.Square, l, q, api.Filter{}, hit(1, 4), hit(4, 3), hit(5, 1), hit(10, 2))
	wantAll(t, api.Minus, l, q, api.Filter{}, hit(-6, 2), hit(-3, 3), hit(-3, 4), hit(0, 1))
}

func TestAMetricThatThereIsnt(t *testing.T) {
	for m := 2; m < 256; m++ {
		wantNothing(t, api.Metric(m), of(0, 1, 2), []int32{1}, api.Filter{})
	}
}

func TestVectorsOfEachTwoLengths(t *testing.T) {
	for _, n := range []int{0, 1, 2, 3, 15, 16, 17, 18, 300} {
		for k := range 20 {
			l := []api.Item{item(7, at(k, 3)...)}
			if k == n && 1 <= n && n <= 16 {
				wantAll(t, api.Square, l, at(n, 1), api.Filter{}, hit(4*int64(n), 7))
				wantAll(t, api.Minus, l, at(n, 1), api.Filter{}, hit(-3*int64(n), 7))
			} else {
				wantNothing(t, api.Square, l, at(n, 1), api.Filter{})
				wantNothing(t, api.Minus, l, at(n, 1), api.Filter{})
			}
		}
	}
}

func TestItemsOfAnotherLengthAreLeftOut(t *testing.T) {
	l := []api.Item{item(1, 1, 1), item(2), item(3, 5), {Id: 4, Vec: []int32{}}, item(5, at(17, 0)...), item(6, 2), item(7, at(16, 2)...)}
	wantAll(t, api.Square, l, []int32{1}, api.Filter{}, hit(1, 6), hit(16, 3))
	wantAll(t, api.Square, l, []int32{1, 1}, api.Filter{}, hit(0, 1))
	wantAll(t, api.Square, l, at(16, 1), api.Filter{}, hit(16, 7))
	for _, n := range []int{0, 3, 15, 17, 18} {
		wantNothing(t, api.Square, l, at(n, 1), api.Filter{})
	}
}

func TestPartsAtTheirBounds(t *testing.T) {
	const top = 1 << 20
	l := []api.Item{item(1, at(16, top)...), item(2, at(16, -top)...), item(3, at(16, 0)...)}
	wantAll(t, api.Square, l, at(16, top), api.Filter{}, hit(0, 1), hit(1<<44, 3), hit(1<<46, 2))
	wantAll(t, api.Square, l, at(16, -top), api.Filter{}, hit(0, 2), hit(1<<44, 3), hit(1<<46, 1))
	wantAll(t, api.Minus, l, at(16, top), api.Filter{}, hit(-1<<44, 1), hit(0, 3), hit(1<<44, 2))
	wantAll(t, api.Minus, l, at(16, -top), api.Filter{}, hit(-1<<44, 2), hit(0, 3), hit(1<<44, 1))
}

func TestPartsBeyondTheirBounds(t *testing.T) {
	for _, wrong := range []int32{1<<20 + 1, -1<<20 - 1, math.MaxInt32, math.MinInt32} {
		for n := 1; n <= 16; n++ {
			for i := range n {
				v := at(n, 1)
				v[i] = wrong
				for _, m := range []api.Metric{api.Square, api.Minus} {
					wantNothing(t, m, []api.Item{item(1, at(n, 1)...)}, v, api.Filter{})
					wantNothing(t, m, []api.Item{item(1, v...)}, at(n, 1), api.Filter{})
					wantNothing(t, m, []api.Item{item(1, v...)}, v, api.Filter{})
				}
			}
		}
		l := []api.Item{item(1, wrong), item(2, 5), item(3, wrong)}
		wantAll(t, api.Square, l, []int32{1}, api.Filter{}, hit(16, 2))
	}
}

func TestFilters(t *testing.T) {
	l := []api.Item{tagged(1, 9), tagged(2, 8, "a"), tagged(3, 7, "b"), tagged(4, 6, "a", "b"), tagged(5, 5, "c"), tagged(6, 4, "a", "b", "c"), tagged(7, 3, "B")}
	for _, c := range []struct {
		name string
		f    api.Filter
		ids  []uint32
	}{
		{"none", api.Filter{}, []uint32{7, 6, 5, 4, 3, 2, 1}},
		{"empty lists", api.Filter{All: []string{}, Any: []string{}, None: []string{}}, []uint32{7, 6, 5, 4, 3, 2, 1}},
		{"all of one", api.Filter{All: []string{"a"}}, []uint32{6, 4, 2}},
		{"all of two", api.Filter{All: []string{"a", "b"}}, []uint32{6, 4}},
		{"all of three", api.Filter{All: []string{"a", "b", "c"}}, []uint32{6}},
		{"any of one", api.Filter{Any: []string{"c"}}, []uint32{6, 5}},
		{"any of two", api.Filter{Any: []string{"a", "c"}}, []uint32{6, 5, 4, 2}},
		{"none of one", api.Filter{None: []string{"a"}}, []uint32{7, 5, 3, 1}},
		{"none of two", api.Filter{None: []string{"a", "b"}}, []uint32{7, 5, 1}},
		{"all and any", api.Filter{All: []string{"a"}, Any: []string{"b", "c"}}, []uint32{6, 4}},
		{"all and none", api.Filter{All: []string{"b"}, None: []string{"a"}}, []uint32{3}},
		{"any and none", api.Filter{Any: []string{"a", "b"}, None: []string{"c"}}, []uint32{4, 3, 2}},
		{"all three", api.Filter{All: []string{"b"}, Any: []string{"a", "c"}, None: []string{"c"}}, []uint32{4}},
		{"what nothing has", api.Filter{All: []string{"d"}}, nil},
		{"any that nothing has", api.Filter{Any: []string{"d", "e"}}, nil},
		{"none that nothing has", api.Filter{None: []string{"d", "e"}}, []uint32{7, 6, 5, 4, 3, 2, 1}},
		{"one tag in all and in none", api.Filter{All: []string{"a"}, None: []string{"a"}}, nil},
		{"none of all", api.Filter{Any: []string{"a", "b", "c"}, None: []string{"a", "b", "c"}}, nil},
		{"tags that don't rise", api.Filter{All: []string{"b", "a"}, None: []string{"c", "c"}}, []uint32{4}},
		{"a tag of no bytes", api.Filter{All: []string{""}}, nil},
		{"too long a tag", api.Filter{None: []string{strings.Repeat("a", 17)}}, []uint32{7, 6, 5, 4, 3, 2, 1}},
		{"too many tags", api.Filter{Any: slices.Repeat([]string{"c"}, 9)}, []uint32{6, 5}},
	} {
		var want []api.Hit
		for _, id := range c.ids {
			far := int64(10-id) - 1
			want = append(want, hit(far*far, id))
		}
		t.Run(c.name, func(t *testing.T) {
			wantAll(t, api.Square, l, []int32{1}, c.f, want...)
			wantAll(t, api.Square, turned(l), []int32{1}, c.f, want...)
		})
	}
}

func TestTagsThatMayNotBe(t *testing.T) {
	l := []api.Item{tagged(1, 1, "b", "a", "b"), tagged(2, 2, ""), tagged(3, 3, strings.Repeat("x", 17)), tagged(4, 4, slices.Repeat([]string{"a"}, 20)...)}
	q := []int32{0}
	wantAll(t, api.Square, l, q, api.Filter{}, hit(1, 1), hit(4, 2), hit(9, 3), hit(16, 4))
	wantAll(t, api.Square, l, q, api.Filter{All: []string{"a"}}, hit(1, 1), hit(16, 4))
	wantAll(t, api.Square, l, q, api.Filter{Any: []string{"", strings.Repeat("x", 17)}}, hit(4, 2), hit(9, 3))
	wantAll(t, api.Square, l, q, api.Filter{None: []string{"b", ""}}, hit(9, 3), hit(16, 4))
}

func TestAnItemMoreThanOnce(t *testing.T) {
	l := []api.Item{item(5, 2), item(4, 9), item(5, 2), item(5, 7), tagged(5, 2, "a"), item(4, 0)}
	q := []int32{1}
	wantAll(t, api.Square, l, q, api.Filter{}, hit(1, 4), hit(1, 5), hit(1, 5), hit(1, 5), hit(36, 5), hit(64, 4))
	wantAll(t, api.Square, l, q, api.Filter{None: []string{"a"}}, hit(1, 4), hit(1, 5), hit(1, 5), hit(36, 5), hit(64, 4))
	wantAll(t, api.Square, l, q, api.Filter{All: []string{"a"}}, hit(1, 5))
}

func TestEquallyFarByTheirIds(t *testing.T) {
	ids := []uint32{9, math.MaxUint32, 0, 1 << 31, 4, 1<<31 - 1}
	var l []api.Item
	for i, id := range ids {
		l = append(l, item(id, []int32{-2, 4}[i%2]))
	}
	want := []api.Hit{hit(9, 0), hit(9, 4), hit(9, 9), hit(9, 1<<31-1), hit(9, 1<<31), hit(9, math.MaxUint32)}
	wantAll(t, api.Square, l, []int32{1}, api.Filter{}, want...)
	wantAll(t, api.Square, turned(l), []int32{1}, api.Filter{}, want...)
	for k := range 7 {
		wantSearch(t, l, []int32{1}, k, want[:k]...)
	}
}

func TestNearerWithAGreaterId(t *testing.T) {
	l := []api.Item{item(1, 5), item(2, 4), item(3, 3), item(math.MaxUint32, 1)}
	wantAll(t, api.Square, l, []int32{1}, api.Filter{}, hit(0, math.MaxUint32), hit(4, 3), hit(9, 2), hit(16, 1))
	wantAll(t, api.Minus, l, []int32{-1}, api.Filter{}, hit(1, math.MaxUint32), hit(3, 3), hit(4, 2), hit(5, 1))
}

// row gives n items, of which those of greater ids are nearer to (0), and Rank's hits of them.
func row(n int) ([]api.Item, []api.Hit) {
	var l []api.Item
	var hits []api.Hit
	for i := range n {
		id, x := uint32(i+1), int64(n-i)
		l = append(l, item(id, int32(x)))
		hits = append(hits, hit(x*x, id))
	}
	return l, turned(hits)
}

func TestRankTellsMoreThanMaxWidth(t *testing.T) {
	for _, n := range []int{1, 2, 255, 256, 257, 258, 600, 5000} {
		l, want := row(n)
		if got := Rank(api.Square, l, []int32{0}, api.Filter{}); !slices.Equal(got, want) {
			t.Errorf("of %d items Rank tells %d", n, len(got))
		}
		if got := Rank(api.Square, turned(l), []int32{0}, api.Filter{}); !slices.Equal(got, want) {
			t.Errorf("of %d items, turned, Rank tells %d", n, len(got))
		}
	}
}

func TestGoingThroughMayBeLeft(t *testing.T) {
	l, q := of(5, 0, 2, 1, 9), []int32{1}
	var got []api.Hit
	for h := range behind(hit(1, 1), wanted(api.Square, l, q, api.Filter{})) {
		got = append(got, h)
		if len(got) == 2 {
			break
		}
	}
	if !slices.Equal(got, []api.Hit{hit(16, 1), hit(1, 2)}) {
		t.Error(got)
	}
}
