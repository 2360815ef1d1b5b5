package topk

import (
	"cmp"
	"math"
	"slices"
	"testing"

	"lodestar/api"
)

// hit gives a hit by its two numbers, as the chapter writes it.
func hit(dist int64, id uint32) api.Hit {
	return api.Hit{Dist: dist, Id: id}
}

// least gives the k least of l, by sorting all of them.
func least(l []api.Hit, k int) []api.Hit {
	sorted := slices.Clone(l)
	slices.SortFunc(sorted, func(a, b api.Hit) int {
		return cmp.Or(cmp.Compare(a.Dist, b.Dist), cmp.Compare(a.Id, b.Id))
	})
	return sorted[:min(max(k, 0), len(sorted))]
}

// some gives n hits from a fixed sequence: many of them equally near, some alike.
func some(n int, seed uint32) []api.Hit {
	l := make([]api.Hit, n)
	for i := range l {
		seed = seed*1664525 + 1013904223
		l[i] = hit(int64(seed>>20)%41-20, (seed>>10)%7)
	}
	return l
}

// rising gives n hits, each less than the next.
func rising(n int) []api.Hit {
	l := make([]api.Hit, n)
	for i := range l {
		l[i] = hit(int64(i/3)-5, uint32(i%3))
	}
	return l
}

// turned gives l the other way round.
func turned(l []api.Hit) []api.Hit {
	back := slices.Clone(l)
	slices.Reverse(back)
	return back
}

// selector gives one of k to which the hits were put.
func selector(k int, hits ...api.Hit) *Best {
	b := New(k)
	for _, h := range hits {
		b.Put(h)
	}
	return b
}

// wantKept fails the test unless b, which has room for room hits, keeps just want.
func wantKept(t *testing.T, b *Best, room int, want []api.Hit) {
	t.Helper()
	if got := b.List(); !slices.Equal(got, want) {
		t.Errorf("List is %v, not %v", got, want)
	}
	if b.Len() != len(want) {
		t.Errorf("Len is %d, not %d", b.Len(), len(want))
	}
	var worst api.Hit
	if len(want) > 0 {
		worst = want[len(want)-1]
	}
	if got, full := b.Worst(); got != worst || full != (len(want) == room) {
		t.Errorf("Worst is %v, %t, not %v, %t", got, full, worst, len(want) == room)
	}
}

// P2.1

func TestTheChaptersExample(t *testing.T) {
	b := selector(2, hit(5, 1), hit(3, 2), hit(3, 1))
	if l := b.List(); !slices.Equal(l, []api.Hit{hit(3, 1), hit(3, 2)}) {
		t.Error(l)
	}
	if w, full := b.Worst(); w != hit(3, 2) || !full {
		t.Error(w, full)
	}
}

func TestASelectorHasNoHitsAtFirst(t *testing.T) {
	for _, k := range []int{1, 2, 256} {
		wantKept(t, New(k), k, nil)
	}
}

func TestKIsBroughtToItsRange(t *testing.T) {
	hits := turned(rising(300))
	for _, c := range []struct{ k, room int }{
		{math.MinInt, 0}, {-1 << 32, 0}, {-256, 0}, {-1, 0}, {0, 0},
		{1, 1}, {2, 2}, {255, 255},
		{256, 256}, {257, 256}, {300, 256}, {1 << 16, 256}, {1 << 32, 256}, {1<<32 + 1, 256}, {math.MaxInt, 256},
	} {
		wantKept(t, New(c.k), c.room, nil)
		wantKept(t, selector(c.k, hits...), c.room, least(hits, c.room))
	}
}

func TestASelectorOfNone(t *testing.T) {
	for _, k := range []int{0, -1, math.MinInt} {
		b := New(k)
		for _, h := range []api.Hit{{}, hit(1, 1), hit(math.MinInt64, 0), hit(math.MaxInt64, math.MaxUint32)} {
			b.Put(h)
			if w, full := b.Worst(); w != (api.Hit{}) || !full {
				t.Errorf("Worst of none is %v, %t", w, full)
			}
			if b.Len() != 0 || len(b.List()) != 0 {
				t.Errorf("of none are kept %v", b.List())
			}
		}
	}
}

func TestASelectorOfOne(t *testing.T) {
	b := New(1)
	for _, c := range []struct{ put, kept api.Hit }{
		{hit(5, 3), hit(5, 3)}, {hit(6, 1), hit(5, 3)}, {hit(5, 4), hit(5, 3)}, {hit(5, 3), hit(5, 3)},
		{hit(5, 2), hit(5, 2)}, {hit(-1, 9), hit(-1, 9)}, {hit(1, 0), hit(-1, 9)},
		{hit(math.MinInt64, 9), hit(math.MinInt64, 9)}, {hit(math.MinInt64, 0), hit(math.MinInt64, 0)},
		{hit(math.MaxInt64, 0), hit(math.MinInt64, 0)},
	} {
		b.Put(c.put)
		wantKept(t, b, 1, []api.Hit{c.kept})
	}
}

func TestFewerThanKJustKAndMore(t *testing.T) {
	for _, k := range []int{1, 2, 3, 4, 7, 8, 31, 255, 256} {
		for _, n := range []int{1, k - 1, k, k + 1, 2*k + 3, 600} {
			for _, hits := range [][]api.Hit{rising(n), turned(rising(n)), some(n, uint32(k))} {
				wantKept(t, selector(k, hits...), k, least(hits, k))
			}
		}
	}
}

func TestAfterEachPutTheLeastAreKept(t *testing.T) {
	for _, k := range []int{1, 2, 3, 5, 16} {
		for seed := range uint32(20) {
			hits := some(50, seed)
			b := New(k)
			for i, h := range hits {
				b.Put(h)
				wantKept(t, b, k, least(hits[:i+1], k))
			}
		}
	}
}

func TestWorstIsToldBelowKToo(t *testing.T) {
	b := selector(3, hit(2, 1))
	if w, full := b.Worst(); w != hit(2, 1) || full {
		t.Error(w, full)
	}
	b.Put(hit(1, 1))
	if w, full := b.Worst(); w != hit(2, 1) || full {
		t.Error(w, full)
	}
	b.Put(hit(4, 1))
	if w, full := b.Worst(); w != hit(4, 1) || !full {
		t.Error(w, full)
	}
	b.Put(hit(3, 1))
	if w, full := b.Worst(); w != hit(3, 1) || !full {
		t.Error(w, full)
	}
}

func TestTheZeroHitIsAHit(t *testing.T) {
	wantKept(t, selector(2, api.Hit{}), 2, []api.Hit{{}})
	wantKept(t, selector(1, api.Hit{}), 1, []api.Hit{{}})
	wantKept(t, selector(2, api.Hit{}, hit(-1, 1), hit(0, 1)), 2, []api.Hit{hit(-1, 1), {}})
}

func TestTheSameHitMoreThanOnce(t *testing.T) {
	same := hit(4, 2)
	wantKept(t, selector(4, same, same, same), 4, []api.Hit{same, same, same})
	wantKept(t, selector(2, same, same, same), 2, []api.Hit{same, same})
	wantKept(t, selector(3, same, hit(4, 3), same, hit(4, 1)), 3, []api.Hit{hit(4, 1), same, same})
	wantKept(t, selector(2, same, same, hit(3, 9)), 2, []api.Hit{hit(3, 9), same})
	wantKept(t, selector(256, slices.Repeat([]api.Hit{same}, 300)...), 256, slices.Repeat([]api.Hit{same}, 256))
}

func TestOneIdAtMoreThanOneDistance(t *testing.T) {
	wantKept(t, selector(3, hit(3, 1), hit(1, 1), hit(2, 1)), 3, []api.Hit{hit(1, 1), hit(2, 1), hit(3, 1)})
}

func TestOfHitsEquallyNearThoseOfLesserIds(t *testing.T) {
	var hits []api.Hit
	for _, id := range []uint32{9, math.MaxUint32, 0, 1 << 31, 4, 1<<31 - 1} {
		hits = append(hits, hit(7, id))
	}
	for k := 1; k <= 7; k++ {
		wantKept(t, selector(k, hits...), k, least(hits, k))
	}
}

func TestTheEndsOfDist(t *testing.T) {
	hits := []api.Hit{
		hit(math.MaxInt64, 0), hit(math.MinInt64, math.MaxUint32), hit(0, 0), hit(1<<40, 0), hit(1<<41, 0),
		hit(-1<<44, 0), hit(1<<46, 0), hit(math.MinInt64, 0), hit(math.MaxInt64, math.MaxUint32),
	}
	for k := 1; k <= 9; k++ {
		wantKept(t, selector(k, hits...), k, least(hits, k))
	}
}

// P2.2

func TestMergeTells(t *testing.T) {
	for _, c := range []struct {
		name string
		a, b []api.Hit
		k    int
		want []api.Hit
	}{
		{"both in order", []api.Hit{hit(1, 1), hit(4, 1)}, []api.Hit{hit(2, 1), hit(3, 1)}, 3, []api.Hit{hit(1, 1), hit(2, 1), hit(3, 1)}},
		{"neither in order", []api.Hit{hit(4, 1), hit(1, 1)}, []api.Hit{hit(3, 1), hit(2, 1)}, 3, []api.Hit{hit(1, 1), hit(2, 1), hit(3, 1)}},
		{"all of the first", []api.Hit{hit(2, 1), hit(1, 1)}, []api.Hit{hit(3, 1), hit(4, 1)}, 2, []api.Hit{hit(1, 1), hit(2, 1)}},
		{"all of the second", []api.Hit{hit(3, 1), hit(4, 1)}, []api.Hit{hit(2, 1), hit(1, 1)}, 2, []api.Hit{hit(1, 1), hit(2, 1)}},
		{"equally near", []api.Hit{hit(3, 4), hit(3, 2)}, []api.Hit{hit(3, 3), hit(3, 1)}, 3, []api.Hit{hit(3, 1), hit(3, 2), hit(3, 3)}},
		{"one hit in both", []api.Hit{hit(2, 7), hit(1, 1)}, []api.Hit{hit(2, 7)}, 3, []api.Hit{hit(1, 1), hit(2, 7), hit(2, 7)}},
		{"one hit twice in one", []api.Hit{hit(2, 7), hit(2, 7)}, []api.Hit{hit(3, 0)}, 2, []api.Hit{hit(2, 7), hit(2, 7)}},
		{"just as many as there are", []api.Hit{hit(2, 1)}, []api.Hit{hit(1, 1)}, 2, []api.Hit{hit(1, 1), hit(2, 1)}},
		{"beyond both", []api.Hit{hit(2, 1)}, []api.Hit{hit(1, 1)}, 3, []api.Hit{hit(1, 1), hit(2, 1)}},
		{"the first empty", nil, []api.Hit{hit(2, 1), hit(1, 1)}, 5, []api.Hit{hit(1, 1), hit(2, 1)}},
		{"the second empty", []api.Hit{hit(2, 1), hit(1, 1)}, []api.Hit{}, 1, []api.Hit{hit(1, 1)}},
		{"both empty", nil, []api.Hit{}, 5, nil},
		{"both empty, none asked for", nil, nil, 0, nil},
		{"none asked for", []api.Hit{hit(1, 1)}, []api.Hit{hit(2, 1)}, 0, nil},
		{"the zero hit", []api.Hit{{}}, []api.Hit{{}, hit(-1, 0)}, 2, []api.Hit{hit(-1, 0), {}}},
	} {
		if got := Merge(c.a, c.b, c.k); !slices.Equal(got, c.want) {
			t.Errorf("%s: %v, not %v", c.name, got, c.want)
		}
		if got := Merge(c.b, c.a, c.k); !slices.Equal(got, c.want) {
			t.Errorf("%s, the other way round: %v, not %v", c.name, got, c.want)
		}
	}
}

func TestMergeOfEachK(t *testing.T) {
	for _, size := range []int{0, 1, 2, 9, 200} {
		a, b := some(size, 1), turned(rising(300-size))
		both := slices.Concat(a, b)
		for _, k := range []int{math.MinInt, -300, -1, 0, 1, 2, 32, 255, 256, 257, 299, 300, 301, 1 << 32, math.MaxInt} {
			if got, want := Merge(a, b, k), least(both, k); !slices.Equal(got, want) {
				t.Errorf("%d and %d hits, k %d: %v, not %v", len(a), len(b), k, got, want)
			}
		}
	}
}

func TestMergeKeepsMoreThanASelectorMay(t *testing.T) {
	a, b := turned(rising(700)), some(700, 3)
	got := Merge(a, b, 1000)
	if want := least(slices.Concat(a, b), 1000); !slices.Equal(got, want) {
		t.Errorf("%d hits", len(got))
	}
}

// P2.3

// orders calls each with every order of l.
func orders(l []api.Hit, each func([]api.Hit)) {
	var from func(i int)
	from = func(i int) {
		if i == len(l) {
			each(l)
			return
		}
		for j := i; j < len(l); j++ {
			l[i], l[j] = l[j], l[i]
			from(i + 1)
			l[i], l[j] = l[j], l[i]
		}
	}
	from(0)
}

func TestTheOrderOfPutsMakesNoDifference(t *testing.T) {
	hits := []api.Hit{hit(3, 2), hit(3, 1), hit(1, 5), hit(3, 2), hit(-2, 9), hit(7, 0), hit(1, 4)}
	for k := range 9 {
		want := least(hits, k)
		orders(slices.Clone(hits), func(l []api.Hit) {
			wantKept(t, selector(k, l...), k, want)
		})
	}
	for _, k := range []int{10, 256} {
		hits := some(400, 8)
		want := selector(k, hits...).List()
		for i := range 40 {
			wantKept(t, selector(k, slices.Concat(hits[i*10:], hits[:i*10])...), k, want)
			wantKept(t, selector(k, turned(slices.Concat(hits[i*10:], hits[:i*10]))...), k, want)
		}
	}
}

func TestALesserSelectorKeepsTheBeginning(t *testing.T) {
	hits := some(300, 5)
	all := selector(256, hits...).List()
	for k := -1; k <= 256; k++ {
		if got := selector(k, hits...).List(); !slices.Equal(got, all[:max(k, 0)]) {
			t.Errorf("of %d: %v", k, got)
		}
	}
}

func TestMergeIsWhatASelectorKeeps(t *testing.T) {
	a, b := some(90, 6), some(70, 7)
	for k := -1; k <= 170; k++ {
		if got := Merge(a, b, k); !slices.Equal(got, selector(k, slices.Concat(a, b)...).List()) {
			t.Errorf("k %d: %v", k, got)
		}
	}
}

// The rules that hold everywhere

// overwrite writes over a list, and over its spare room.
func overwrite(l []api.Hit) {
	for i := range l[:cap(l)] {
		l[:cap(l)][i] = hit(math.MinInt64, 77)
	}
}

func TestAListThatWasToldMayBeWrittenOver(t *testing.T) {
	hits := some(40, 2)
	for _, k := range []int{1, 2, 10, 40, 50} {
		b := selector(k, hits[:30]...)
		first, second := b.List(), b.List()
		overwrite(first)
		if !slices.Equal(second, least(hits[:30], k)) {
			t.Errorf("of %d: two lists share memory", k)
		}
		wantKept(t, b, k, least(hits[:30], k))
		overwrite(append(b.List(), hit(1, 1)))
		for _, h := range hits[30:] {
			b.Put(h)
		}
		wantKept(t, b, k, least(hits, k))
	}
}

func TestAListThatWasToldStaysAsItWas(t *testing.T) {
	b := selector(3, hit(5, 1), hit(6, 1), hit(4, 1))
	told := b.List()
	b.Put(hit(1, 1))
	b.Put(hit(2, 1))
	if !slices.Equal(told, []api.Hit{hit(4, 1), hit(5, 1), hit(6, 1)}) {
		t.Error(told)
	}
}

func TestAskingChangesNothing(t *testing.T) {
	b := selector(5, some(9, 4)...)
	want := least(some(9, 4), 5)
	for range 3 {
		wantKept(t, b, 5, want)
	}
}

func TestMergeLeavesWhatItIsHandedAsItWas(t *testing.T) {
	for _, k := range []int{-1, 0, 1, 5, 12, 100} {
		room := some(20, 9)
		kept := slices.Clone(room)
		a, b := room[0:7], room[10:15]
		want := least(slices.Concat(a, b), k)
		first := Merge(a, b, k)
		second := Merge(a, b, k)
		overwrite(first)
		if !slices.Equal(room, kept) {
			t.Errorf("k %d: %v has become %v", k, kept, room)
		}
		if !slices.Equal(second, want) {
			t.Errorf("k %d: two answers share memory", k)
		}
		overwrite(room)
		if !slices.Equal(second, want) {
			t.Errorf("k %d: the answer shares memory with what was handed in", k)
		}
	}
}

func TestMergeOfOneListWithItself(t *testing.T) {
	l := []api.Hit{hit(2, 1), hit(1, 1)}
	if got := Merge(l, l, 3); !slices.Equal(got, []api.Hit{hit(1, 1), hit(1, 1), hit(2, 1)}) {
		t.Error(got)
	}
	if !slices.Equal(l, []api.Hit{hit(2, 1), hit(1, 1)}) {
		t.Error(l)
	}
}

func TestMergeOfOneListAndNoneIsNewMemory(t *testing.T) {
	l := []api.Hit{hit(1, 1), hit(2, 1)}
	overwrite(Merge(l, nil, 2))
	overwrite(Merge(nil, l, 2))
	if !slices.Equal(l, []api.Hit{hit(1, 1), hit(2, 1)}) {
		t.Error(l)
	}
}

func TestSelectorsHaveNothingInCommon(t *testing.T) {
	hits := some(60, 12)
	a, b := New(8), New(8)
	for i, h := range hits {
		if i%2 == 0 {
			a.Put(h)
		} else {
			b.Put(h)
		}
	}
	var even, odd []api.Hit
	for i, h := range hits {
		if i%2 == 0 {
			even = append(even, h)
		} else {
			odd = append(odd, h)
		}
	}
	wantKept(t, a, 8, least(even, 8))
	wantKept(t, b, 8, least(odd, 8))
}
