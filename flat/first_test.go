package flat

import (
	"math"
	"slices"
	"testing"

	"lodestar/api"
)

// first gives as many of the hits as the chapter's k lets through.
func first(hits []api.Hit, k int) []api.Hit {
	switch {
	case k < 1:
		return nil
	case k > 256:
		k = 256
	}
	return hits[:min(k, len(hits))]
}

// asked gives numbers k at which something is to be seen, for n hits.
func asked(n int) []int {
	return []int{
		math.MinInt, math.MinInt32, -1 << 32, -300, -256, -1, 0, 1, 2, 3, n - 1, n, n + 1,
		255, 256, 257, 300, 1 << 16, math.MaxInt32, 1 << 32, 1<<32 + 1, math.MaxInt,
	}
}

// P10.2

func TestSearchOfEachK(t *testing.T) {
	for _, n := range []int{0, 1, 2, 9, 255, 256, 257, 258, 600} {
		l, hits := row(n)
		for _, k := range asked(n) {
			wantSearch(t, l, []int32{0}, k, first(hits, k)...)
			wantSearch(t, turned(l), []int32{0}, k, first(hits, k)...)
		}
	}
}

func TestSearchCountsWhatIsWantedAlone(t *testing.T) {
	l := []api.Item{tagged(1, 1), tagged(2, 2, "a"), item(3, 1, 1), tagged(4, 1), tagged(5, 4, "a"), tagged(6, 3, "a"), item(7, 1<<20+1)}
	f := api.Filter{All: []string{"a"}}
	want := []api.Hit{hit(4, 2), hit(9, 6), hit(16, 5)}
	for k := range 8 {
		if got := Search(api.Square, l, []int32{0}, f, k); !slices.Equal(got, first(want, k)) {
			t.Errorf("k %d: %v", k, got)
		}
	}
}

func TestSearchByMinus(t *testing.T) {
	l := of(0, 3, -2, 5, 3)
	want := []api.Hit{hit(-10, 4), hit(-6, 2), hit(-6, 5), hit(0, 1), hit(4, 3)}
	for k := range 8 {
		if got := Search(api.Minus, l, []int32{2}, api.Filter{}, k); !slices.Equal(got, first(want, k)) {
			t.Errorf("k %d: %v", k, got)
		}
	}
}

func TestSearchOfOneItemManyTimes(t *testing.T) {
	l := slices.Repeat(of(3), 300)
	for _, k := range asked(300) {
		wantSearch(t, l, []int32{1}, k, first(slices.Repeat([]api.Hit{hit(4, 1)}, 300), k)...)
	}
}

// P10.3

func TestAfterTells(t *testing.T) {
	// Seen from (1): 0/6, 1/2, 1/4, 1/8, 4/3, 9/1, 9/9.
	l := []api.Item{item(1, 4), item(2, 2), item(3, 3), item(4, 0), item(6, 1), item(8, 2), item(9, -2)}
	all := []api.Hit{hit(0, 6), hit(1, 2), hit(1, 4), hit(1, 8), hit(4, 3), hit(9, 1), hit(9, 9)}
	for _, c := range []struct {
		name string
		last api.Hit
		want []api.Hit
	}{
		{"the first", hit(0, 6), all[1:]},
		{"one among them", hit(4, 3), all[5:]},
		{"one of several equally far", hit(1, 4), all[3:]},
		{"the last but one", hit(9, 1), all[6:]},
		{"the last", hit(9, 9), nil},
		{"none of them", hit(3, 3), all[4:]},
		{"none of them, of an Id that isn't there", hit(5, 77), all[5:]},
		{"equally far, an Id between two", hit(1, 3), all[2:]},
		{"equally far, an Id between two others", hit(1, 7), all[3:]},
		{"equally far, a lesser Id", hit(1, 1), all[1:]},
		{"equally far, a greater Id", hit(1, 9), all[4:]},
		{"equally far as the last, a greater Id", hit(9, 10), nil},
		{"a bit nearer than the first", hit(0, 5), all},
		{"the zero hit", hit(0, 0), all},
		{"less than all", hit(-1, 6), all},
		{"less than all, the greatest Id", hit(-1, math.MaxUint32), all},
		{"the least of all hits", hit(math.MinInt64, 0), all},
		{"greater than all", hit(10, 0), nil},
		{"the greatest of all hits", hit(math.MaxInt64, math.MaxUint32), nil},
	} {
		t.Run(c.name, func(t *testing.T) {
			for _, k := range asked(len(c.want)) {
				wantAfter(t, l, []int32{1}, c.last, k, first(c.want, k)...)
				wantAfter(t, turned(l), []int32{1}, c.last, k, first(c.want, k)...)
			}
		})
	}
}

func TestAfterOfMoreThanMaxWidth(t *testing.T) {
	l, hits := row(600)
	for _, i := range []int{0, 1, 298, 342, 343, 344, 345, 598, 599} {
		for _, k := range asked(len(hits) - i - 1) {
			wantAfter(t, l, []int32{0}, hits[i], k, first(hits[i+1:], k)...)
		}
	}
	for _, k := range asked(600) {
		wantAfter(t, l, []int32{0}, hit(0, 0), k, first(hits, k)...)
	}
}

func TestAfterAHitThatIsThereMoreThanOnce(t *testing.T) {
	l := []api.Item{item(5, 2), item(4, 9), item(5, 2), item(5, 7), item(5, 2)}
	wantAfter(t, l, []int32{1}, hit(1, 5), 9, hit(36, 5), hit(64, 4))
	wantAfter(t, l, []int32{1}, hit(1, 4), 2, hit(1, 5), hit(1, 5))
	wantAfter(t, l, []int32{1}, hit(1, 6), 9, hit(36, 5), hit(64, 4))
}

func TestAfterTellsWhatIsWantedAlone(t *testing.T) {
	l := []api.Item{tagged(1, 1), tagged(2, 2, "a"), item(3, 1, 1), tagged(4, 3), tagged(5, 4, "a"), tagged(6, 3, "a"), item(7, 1<<20+1)}
	f := api.Filter{Any: []string{"a"}}
	for _, c := range []struct {
		last api.Hit
		want []api.Hit
	}{
		{hit(1, 1), []api.Hit{hit(4, 2), hit(9, 6), hit(16, 5)}}, // of an item that isn't wanted
		{hit(4, 2), []api.Hit{hit(9, 6), hit(16, 5)}},
		{hit(9, 4), []api.Hit{hit(9, 6), hit(16, 5)}}, // here too
		{hit(9, 6), []api.Hit{hit(16, 5)}},
		{hit(16, 5), nil},
	} {
		for k := range 5 {
			if got := After(api.Square, l, []int32{0}, f, c.last, k); !slices.Equal(got, first(c.want, k)) {
				t.Errorf("after %v, k %d: %v", c.last, k, got)
			}
		}
	}
}

func TestAfterByMinus(t *testing.T) {
	l := of(0, 3, -2, 5, 3)
	all := []api.Hit{hit(-10, 4), hit(-6, 2), hit(-6, 5), hit(0, 1), hit(4, 3)}
	for i, last := range all {
		if got := After(api.Minus, l, []int32{2}, api.Filter{}, last, 9); !slices.Equal(got, all[i+1:]) {
			t.Errorf("after %v: %v", last, got)
		}
	}
	if got := After(api.Minus, l, []int32{2}, api.Filter{}, hit(-6, 3), 9); !slices.Equal(got, all[2:]) {
		t.Error(got)
	}
}
