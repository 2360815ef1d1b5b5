package past

import (
	"math"
	"slices"
	"testing"

	"lodestar/api"
)

// P8.3

// versions gives a past that has the item 7 anew at each version from 1 to last.
func versions(t *testing.T, last int) *Past {
	t.Helper()
	p := New()
	for v := 1; v <= last; v++ {
		put(t, p, uint64(v), item(7, int32(v)))
	}
	return p
}

// wantSweep wants so many rows to go.
func wantSweep(t *testing.T, p *Past, want int, keep ...uint64) {
	t.Helper()
	before := p.Rows()
	if n := p.Sweep(keep); n != want || p.Rows() != before-want {
		t.Errorf("Sweep(%v) of %d rows = %d, and %d are left; want %d", keep, before, n, p.Rows(), want)
	}
}

// wantKnown wants just those of the versions from 0 to 20 to be known, and all that are very great.
func wantKnown(t *testing.T, p *Past, known ...uint64) {
	t.Helper()
	for v := range uint64(21) {
		_, e := p.All(v)
		_, eGet := p.Get(1000, v)
		if is := slices.Contains(known, v); is != (e == api.OK) || is != (eGet == api.ErrNone) || is == (e == api.ErrGone) || is == (eGet == api.ErrGone) {
			t.Errorf("at %d: %d, %d; known: %t", v, e, eGet, is)
		}
	}
	for _, v := range far() {
		if _, e := p.All(v); e != api.OK {
			t.Errorf("at %d: %d", v, e)
		}
	}
}

// upTo20 gives the versions of l, and behind them those from first to 20.
func upTo20(first uint64, l ...uint64) []uint64 {
	for v := first; v <= 20; v++ {
		l = append(l, v)
	}
	return l
}

func TestKnownAheadOfAnySweep(t *testing.T) {
	wantKnown(t, New(), upTo20(0)...)
	wantKnown(t, versions(t, 9), upTo20(0)...)
}

func TestKnownBehindASweepWithoutRows(t *testing.T) {
	p := New()
	wantSweep(t, p, 0)
	wantKnown(t, p, upTo20(0)...)
	wantSweep(t, p, 0, 3)
	put(t, p, 5, item(7, 1))
	wantKnown(t, p, upTo20(0)...)
	wantSweep(t, p, 0)
	wantKnown(t, p, upTo20(5)...)
}

func TestKnownBehindASweep(t *testing.T) {
	for _, c := range []struct {
		keep  []uint64
		went  int
		known []uint64
	}{
		{nil, 8, nil},
		{[]uint64{}, 8, nil},
		{[]uint64{9}, 8, nil},
		{[]uint64{8}, 7, []uint64{8}},
		{[]uint64{1}, 7, []uint64{1}},
		{[]uint64{0}, 8, []uint64{0}},
		{[]uint64{0, 9, 10}, 8, []uint64{0}},
		{[]uint64{4, 4, 4}, 7, []uint64{4}},
		{[]uint64{5, 2, 7, 2, 5}, 5, []uint64{2, 5, 7}},
		{[]uint64{7, 5, 2}, 5, []uint64{2, 5, 7}},
		{[]uint64{10, 15, math.MaxUint64}, 8, nil},
		{[]uint64{math.MaxUint64, 3, 12, 0, 8}, 6, []uint64{0, 3, 8}},
		{[]uint64{8, 7, 6, 5, 4, 3, 2, 1}, 0, []uint64{1, 2, 3, 4, 5, 6, 7, 8}},
		{[]uint64{1, 2, 3, 4, 5, 6, 7, 8, 9}, 0, []uint64{1, 2, 3, 4, 5, 6, 7, 8}},
	} {
		p := versions(t, 9)
		wantSweep(t, p, c.went, c.keep...)
		wantKnown(t, p, upTo20(9, c.known...)...)
		wantAll(t, p, 9, item(7, 9))
		for _, v := range c.known {
			if v > 0 {
				wantGet(t, p, v, item(7, int32(v)))
			}
		}
	}
}

func TestKnownBehindSeveralSweeps(t *testing.T) {
	p := versions(t, 6)
	wantSweep(t, p, 3, 2, 4)
	wantKnown(t, p, upTo20(6, 2, 4)...)
	put(t, p, 8, item(7, 8))
	put(t, p, 9, item(7, 9))
	wantKnown(t, p, upTo20(6, 2, 4)...)
	// 2 is known and kept, 4 is known but not kept, 3 is kept but not known any more, 6 is the version of the sweep ahead, 7 has no row of its own.
	wantSweep(t, p, 2, 2, 3, 6, 7)
	wantKnown(t, p, upTo20(9, 2, 6, 7)...)
	wantAll(t, p, 2, item(7, 2))
	wantAll(t, p, 6, item(7, 6))
	wantAll(t, p, 7, item(7, 6))
	wantAll(t, p, 9, item(7, 9))
	// What is no more known once doesn't come again.
	wantSweep(t, p, 0, 0, 1, 2, 3, 4, 5, 6, 7, 8, 9)
	wantKnown(t, p, upTo20(9, 2, 6, 7)...)
	wantSweep(t, p, 1, 7)
	wantKnown(t, p, upTo20(9, 7)...)
	wantAll(t, p, 7, item(7, 6))
	wantSweep(t, p, 1)
	wantKnown(t, p, upTo20(9)...)
}

func TestVersionsAboveLastAreKeptForThatSweepAlone(t *testing.T) {
	p := versions(t, 3)
	wantSweep(t, p, 2, 5, 7)
	put(t, p, 6, item(7, 6))
	put(t, p, 9, item(7, 9))
	wantKnown(t, p, upTo20(3)...)
	wantAll(t, p, 5, item(7, 3))
	wantSweep(t, p, 1, 7)
	wantKnown(t, p, upTo20(9, 7)...)
	wantAll(t, p, 7, item(7, 6))
}

func TestAVersionThatIsKeptButNotKnownKeepsNoRow(t *testing.T) {
	p := versions(t, 5)
	wantSweep(t, p, 3, 3)
	wantSweep(t, p, 1, 4)
	wantKnown(t, p, upTo20(5)...)
	p = versions(t, 5)
	wantSweep(t, p, 3, 3)
	// At 4 the row of 3 would be the item's: but 4 isn't known.
	wantSweep(t, p, 1, 4, 5)
	wantRows(t, p, 1, 5)
}

func TestRowsAreKeptForVersionsBetween(t *testing.T) {
	for _, c := range []struct {
		keep []uint64
		went int
	}{
		{[]uint64{9}, 2}, {[]uint64{10}, 1}, {[]uint64{15}, 1}, {[]uint64{19}, 1},
		{[]uint64{20}, 1}, {[]uint64{29}, 1}, {[]uint64{30}, 2}, {[]uint64{31}, 2},
		{[]uint64{10, 19}, 1}, {[]uint64{19, 20}, 0}, {[]uint64{9, 30}, 2}, {[]uint64{29, 10}, 0},
	} {
		p := New()
		put(t, p, 10, item(7, 1))
		put(t, p, 20, item(7, 2))
		put(t, p, 30, item(7, 3))
		wantSweep(t, p, c.went, c.keep...)
	}
}

func TestOnlyTheLastRowOfAVersionIsKept(t *testing.T) {
	p := New()
	for i := range int32(4) {
		put(t, p, 1, item(7, i))
		put(t, p, 1, item(8, i))
	}
	cut(t, p, 1, 8)
	put(t, p, 2, item(7, 9))
	put(t, p, 2, item(7, 10))
	// Of the item 8 nothing stays at 1: what it is gone behind goes too.
	wantSweep(t, p, 9, 1)
	wantAll(t, p, 1, item(7, 3))
	wantAll(t, p, 2, item(7, 10))
}

func TestARowThatSaysGoneStaysAsLongAsAnElderOne(t *testing.T) {
	p := example(t)
	put(t, p, 4, item(8, 1))
	wantSweep(t, p, 1, 1, 3)
	wantAll(t, p, 1, item(7, 1))
	wantAll(t, p, 3)
	wantAll(t, p, 4, item(8, 1))
	wantSweep(t, p, 0, 1, 3)
	wantSweep(t, p, 0, 1)
	wantAll(t, p, 4, item(8, 1))
	wantSweep(t, p, 2)
	wantRows(t, p, 1, 4)
	wantAll(t, p, 4, item(8, 1))
}

func TestARowThatSaysGoneStaysWhereItIsSeen(t *testing.T) {
	p := example(t)
	put(t, p, 4, item(7, 4))
	// That of 2 goes, and that of 3 (gone) is seen at no version that is kept.
	wantSweep(t, p, 2, 1)
	wantAll(t, p, 1, item(7, 1))
	wantAll(t, p, 4, item(7, 4))
	p = example(t)
	put(t, p, 4, item(7, 4))
	wantSweep(t, p, 1, 1, 3)
	wantAll(t, p, 3)
	wantAll(t, p, 4, item(7, 4))
	p = example(t)
	put(t, p, 4, item(7, 4))
	// The younger one is needed, but no elder one: gone needn't be said.
	wantSweep(t, p, 3, 3)
	wantAll(t, p, 3)
	wantAll(t, p, 4, item(7, 4))
}

func TestSeveralRowsThatSayGone(t *testing.T) {
	for _, c := range []struct {
		keep []uint64
		went int
	}{
		{nil, 6}, {[]uint64{2}, 6}, {[]uint64{2, 4}, 6}, {[]uint64{6}, 6},
		{[]uint64{1}, 4}, {[]uint64{1, 2}, 3}, {[]uint64{1, 4}, 3}, {[]uint64{1, 2, 4}, 2},
		{[]uint64{3}, 4}, {[]uint64{2, 3}, 4}, {[]uint64{3, 4}, 3}, {[]uint64{2, 3, 4}, 3},
		{[]uint64{5}, 4}, {[]uint64{2, 4, 5}, 4}, {[]uint64{1, 2, 3, 4, 5}, 0}, {[]uint64{1, 3, 5}, 2},
	} {
		p := New()
		for v := uint64(1); v < 7; v += 2 {
			put(t, p, v, item(7, int32(v)))
			cut(t, p, v+1, 7)
		}
		wantSweep(t, p, c.went, c.keep...)
		wantAll(t, p, 6)
		for _, v := range c.keep {
			if v%2 == 1 {
				wantAll(t, p, v, item(7, int32(v)))
			} else {
				wantAll(t, p, v)
			}
		}
	}
}

func TestRowsOfOtherIdsDoNotHoldOneThatSaysGone(t *testing.T) {
	p := New()
	put(t, p, 1, item(8, 1))
	put(t, p, 2, item(7, 1))
	cut(t, p, 3, 7)
	put(t, p, 4, item(9, 1))
	wantSweep(t, p, 2, 1)
	wantAll(t, p, 4, item(8, 1), item(9, 1))
}

func TestASweepBehindASweepTakesNothing(t *testing.T) {
	for _, keep := range [][]uint64{nil, {1}, {2}, {3, 1}, {0, 1, 2, 3, 9}} {
		p := example(t)
		put(t, p, 3, item(8, 1))
		p.Sweep(keep)
		for range 3 {
			wantSweep(t, p, 0, keep...)
		}
		wantAll(t, p, 3, item(8, 1))
	}
}

func TestManyVersionsToKeep(t *testing.T) {
	p := New()
	for v := range uint64(1000) {
		put(t, p, 1000*(v+1), item(7, int32(v)))
	}
	var keep []uint64
	for v := range uint64(200_000) {
		keep = append(keep, v*7_368_787%1_000_003)
	}
	met, rows := map[uint64]bool{}, map[uint64]bool{}
	for _, v := range keep {
		met[v] = true
		rows[v/1000] = v >= 1000 && v < 1_000_000
	}
	rows[0] = false
	stay := 1 // that of Last
	for _, needed := range rows {
		if needed {
			stay++
		}
	}
	wantSweep(t, p, 1000-stay, keep...)
	for v := uint64(0); v < 1_000_000; v += 97 {
		x, e := p.Get(7, v)
		switch {
		case !met[v] && e != api.ErrGone, met[v] && v < 1000 && e != api.ErrNone:
			t.Fatalf("at %d: %d", v, e)
		case met[v] && v >= 1000 && (e != api.OK || !same(x, item(7, int32(v/1000)-1))):
			t.Fatalf("at %d: %v, %d", v, x, e)
		}
	}
}

// P8.4

func TestWithoutAnythingKeptJustWhatIsThereHasRows(t *testing.T) {
	p := New()
	for i := range uint32(60) {
		put(t, p, uint64(i+1), item(i%20, int32(i)))
		if i%3 == 0 {
			cut(t, p, uint64(i+1), i%20)
		}
	}
	all, _ := p.All(60)
	wantSweep(t, p, 80-len(all))
	wantRows(t, p, len(all), 60)
	wantAll(t, p, 60, all...)
	for _, x := range all {
		cut(t, p, 61, x.Id)
	}
	wantSweep(t, p, 2*len(all))
	wantRows(t, p, 0, 61)
}

// next gives the number behind n in a fixed sequence.
func next(n uint32) uint32 {
	return n*1664525 + 1013904223
}

// dice gives numbers from a fixed sequence.
type dice uint32

// upTo gives one from 0 to n - 1.
func (d *dice) upTo(n int) int {
	*d = dice(next(uint32(*d)))
	return int(uint64(*d) * uint64(n) >> 32)
}

// told is what All tells of a version.
type told struct {
	items []api.Item
	err   api.Errno
}

// allTold gives what All tells of each of those versions.
func allTold(p *Past, versions []uint64) map[uint64]told {
	m := map[uint64]told{}
	for _, v := range versions {
		l, e := p.All(v)
		m[v] = told{l, e}
	}
	return m
}

// wantSweepKeeps sweeps, and wants the sweep to change nothing of what is told of versions that are known behind it.
func (b *pair) wantSweepKeeps(keep []uint64) {
	b.t.Helper()
	at := b.versions()
	before := allTold(b.p, at)
	b.sweepAsSlow(keep)
	for v, is := range allTold(b.p, at) {
		if was := before[v]; is.err != api.ErrGone && (was.err != is.err || !slices.EqualFunc(was.items, is.items, same)) {
			b.t.Fatalf("%s: All(%d) was %v, %d and is %v, %d", b.done, v, was.items, was.err, is.items, is.err)
		}
		if was := before[v]; is.err == api.ErrGone && was.err == api.OK && slices.Contains(keep, v) {
			b.t.Fatalf("%s: %d was known and kept, but isn't known", b.done, v)
		}
	}
	b.wantAlike()
}

// step does to both what the dice say: Put or Cut of one of few ids at one of few versions, or a sweep.
func (b *pair) step(d *dice, ids []uint32) {
	b.t.Helper()
	v, id := b.s.Last()+uint64(d.upTo(3)), ids[d.upTo(len(ids))]
	if d.upTo(12) == 0 {
		v = uint64(d.upTo(int(b.s.Last()) + 1))
	}
	switch d.upTo(7) {
	case 0, 1, 2:
		x := item(id, int32(d.upTo(1000)))
		b.put(v, x, b.expect(v, id, false))
	case 3, 4, 5:
		b.cut(v, id, b.expect(v, id, true))
	default:
		var keep []uint64
		for range d.upTo(5) {
			keep = append(keep, uint64(d.upTo(int(b.s.Last())+3)))
		}
		b.wantSweepKeeps(keep)
	}
}

// expect gives what Put, or Cut, must answer where there is room.
func (b *pair) expect(v uint64, id uint32, isCut bool) api.Errno {
	if v == 0 || v < b.s.Last() {
		return api.ErrArg
	}
	if isCut && !b.s.there(id, v) {
		return api.ErrNone
	}
	return api.OK
}

func TestAsTheSlowOne(t *testing.T) {
	d := dice(3)
	for range 300 {
		b := newPair(t)
		for range 40 {
			b.step(&d, []uint32{0, 7, math.MaxUint32})
		}
		b.wantAlike()
	}
}

func TestLongAsTheSlowOne(t *testing.T) {
	d := dice(5)
	for range 20 {
		b := newPair(t)
		for range 150 {
			b.step(&d, []uint32{1, 2, 3, 4, 5, 900, 1 << 31})
		}
		b.wantAlike()
	}
}

// scripts calls each with every way to lay n rows of one item.
func scripts(n int, each func(lay func(b *pair))) {
	for code := range 1 << (2 * n) {
		each(func(b *pair) {
			v := uint64(1)
			for i := range n {
				v += uint64(code >> (2 * i) & 1)
				if code>>(2*i)&2 == 0 || !b.s.there(7, v) {
					b.put(v, item(7, int32(i)), api.OK)
				} else {
					b.cut(v, 7, api.OK)
				}
			}
		})
	}
}

func TestEverySweepOfFewRows(t *testing.T) {
	for n := range 6 {
		scripts(n, func(lay func(*pair)) {
			b := newPair(t)
			lay(b)
			for set := range 2 << b.s.Last() {
				b := newPair(t)
				lay(b)
				b.wantSweepKeeps(chosen(set))
			}
		})
	}
}

func TestEveryTwoSweepsOfFewRows(t *testing.T) {
	scripts(3, func(lay func(*pair)) {
		b := newPair(t)
		lay(b)
		last := b.s.Last()
		for set := range 1 << (2*last + 1) {
			b := newPair(t)
			lay(b)
			b.sweepAsSlow(chosen(set & (1<<last - 1)))
			b.put(last+1, item(7, 50), api.OK)
			b.wantSweepKeeps(chosen(set >> last))
		}
	})
}

// chosen gives the versions whose bits stand in set.
func chosen(set int) []uint64 {
	var l []uint64
	for v := range uint64(8) {
		if set>>v&1 == 1 {
			l = append(l, v)
		}
	}
	return l
}
