package past

import (
	"math"
	"slices"
	"testing"

	"lodestar/api"
)

// item gives an item that has one tag, and a vector of one part.
func item(id uint32, part int32) api.Item {
	return api.Item{Id: id, Vec: []int32{part}, Tags: []string{"t"}}
}

// put wants an item to be put.
func put(t *testing.T, p *Past, v uint64, x api.Item) {
	t.Helper()
	if e := p.Put(v, x); e != api.OK {
		t.Fatalf("Put(%d, %v) = %d", v, x, e)
	}
}

// cut wants an item to be cut.
func cut(t *testing.T, p *Past, v uint64, id uint32) {
	t.Helper()
	if e := p.Cut(v, id); e != api.OK {
		t.Fatalf("Cut(%d, %d) = %d", v, id, e)
	}
}

// wantRefused wants Put and Cut at v to be refused with e.
func wantRefused(t *testing.T, p *Past, v uint64, id uint32, e api.Errno) {
	t.Helper()
	if got := p.Put(v, item(id, 99)); got != e {
		t.Errorf("Put(%d, %d) = %d; want %d", v, id, got, e)
	}
	if got := p.Cut(v, id); got != e {
		t.Errorf("Cut(%d, %d) = %d; want %d", v, id, got, e)
	}
}

func wantRows(t *testing.T, p *Past, rows int, last uint64) {
	t.Helper()
	if p.Rows() != rows || p.Last() != last {
		t.Errorf("%d rows, Last %d; want %d, %d", p.Rows(), p.Last(), rows, last)
	}
}

// wantGet wants x to be there at v.
func wantGet(t *testing.T, p *Past, v uint64, x api.Item) {
	t.Helper()
	if got, e := p.Get(x.Id, v); e != api.OK || !same(got, x) {
		t.Errorf("Get(%d, %d) = %v, %d; want %v", x.Id, v, got, e, x)
	}
}

// wantNoItem wants Get to tell e and nothing else.
func wantNoItem(t *testing.T, p *Past, id uint32, v uint64, e api.Errno) {
	t.Helper()
	if got, err := p.Get(id, v); err != e || got.Id != 0 || got.Vec != nil || got.Tags != nil {
		t.Errorf("Get(%d, %d) = %v, %d; want nothing and %d", id, v, got, err, e)
	}
}

// wantAll wants just those items to be there at v, in that order.
func wantAll(t *testing.T, p *Past, v uint64, want ...api.Item) {
	t.Helper()
	if got, e := p.All(v); e != api.OK || !slices.EqualFunc(got, want, same) {
		t.Errorf("All(%d) = %v, %d; want %v", v, got, e, want)
	}
}

// wantGone wants v not to be known.
func wantGone(t *testing.T, p *Past, v uint64, ids ...uint32) {
	t.Helper()
	if got, e := p.All(v); e != api.ErrGone || len(got) != 0 {
		t.Errorf("All(%d) = %v, %d; want nothing and %d", v, got, e, api.ErrGone)
	}
	for _, id := range append(ids, 0, math.MaxUint32) {
		wantNoItem(t, p, id, v, api.ErrGone)
	}
}

// example gives the past of the chapter's example, ahead of its sweep.
func example(t *testing.T) *Past {
	t.Helper()
	p := New()
	put(t, p, 1, item(7, 1))
	put(t, p, 2, item(7, 2))
	cut(t, p, 3, 7)
	return p
}

// far gives versions that are very great.
func far() []uint64 {
	return []uint64{math.MaxInt32, 1 << 32, math.MaxInt64, 1 << 63, math.MaxUint64 - 1, math.MaxUint64}
}

func TestTheChaptersExamples(t *testing.T) {
	p := example(t)
	wantGet(t, p, 1, item(7, 1))
	wantGet(t, p, 2, item(7, 2))
	wantNoItem(t, p, 7, 3, api.ErrNone)
	if n := p.Sweep([]uint64{1}); n != 1 {
		t.Errorf("%d rows went", n)
	}
	wantRows(t, p, 2, 3)
	wantGet(t, p, 1, item(7, 1))
	wantNoItem(t, p, 7, 2, api.ErrGone)
	wantNoItem(t, p, 7, 3, api.ErrNone)
	if n := p.Sweep(nil); n != 2 {
		t.Errorf("%d rows went", n)
	}
	wantRows(t, p, 0, 3)
}

// P8.1

func TestAPastWithoutRows(t *testing.T) {
	for _, keep := range [][]uint64{nil, {}, {0}, {0, 1, 5}, {math.MaxUint64, 0, 0}} {
		p := New()
		for range 3 {
			wantRows(t, p, 0, 0)
			for _, v := range append(far(), 0, 1, 2) {
				wantAll(t, p, v)
				wantNoItem(t, p, 0, v, api.ErrNone)
				wantNoItem(t, p, 7, v, api.ErrNone)
				wantNoItem(t, p, math.MaxUint32, v, api.ErrNone)
			}
			if n := p.Sweep(keep); n != 0 {
				t.Errorf("Sweep(%v) = %d", keep, n)
			}
		}
		put(t, p, 1, item(7, 1))
		wantRows(t, p, 1, 1)
		wantGet(t, p, 1, item(7, 1))
		wantAll(t, p, 0)
	}
}

func TestTheVersion0MayNotBe(t *testing.T) {
	p := New()
	wantRefused(t, p, 0, 7, api.ErrArg)
	wantRefused(t, p, 0, 0, api.ErrArg)
	wantRows(t, p, 0, 0)
	put(t, p, 1, item(7, 1))
	wantRefused(t, p, 0, 7, api.ErrArg)
	cut(t, p, 1, 7)
	p.Sweep(nil)
	wantRefused(t, p, 0, 7, api.ErrArg)
	wantRows(t, p, 0, 1)
}

func TestVersionsDoNotFall(t *testing.T) {
	for _, last := range append(far(), 2, 5) {
		p := New()
		put(t, p, last, item(7, 1))
		for _, v := range []uint64{0, 1, last / 2, last - 1} {
			wantRefused(t, p, v, 7, api.ErrArg)
			wantRefused(t, p, v, 8, api.ErrArg)
			wantRows(t, p, 1, last)
		}
		put(t, p, last, item(8, 2))
		cut(t, p, last, 7)
		wantRows(t, p, 3, last)
		wantAll(t, p, last, item(8, 2))
		wantAll(t, p, last-1)
	}
}

func TestVersionsMayRiseByAny(t *testing.T) {
	p := New()
	n := 0
	for _, v := range append([]uint64{1, 2, 3, 100}, far()...) {
		put(t, p, v, item(7, int32(n)))
		n++
		wantRows(t, p, n, v)
	}
	cut(t, p, math.MaxUint64, 7)
	wantRows(t, p, n+1, math.MaxUint64)
	wantAll(t, p, math.MaxUint64)
	wantGet(t, p, math.MaxUint64-1, item(7, int32(n-2)))
}

func TestLastIsTheGreatestOfWhatWasLaidNotOfWhatWasRefused(t *testing.T) {
	p := New()
	if e := p.Cut(9, 7); e != api.ErrNone {
		t.Error(e)
	}
	wantRows(t, p, 0, 0)
	put(t, p, 3, item(7, 1))
	if e := p.Cut(9, 8); e != api.ErrNone {
		t.Error(e)
	}
	wantRows(t, p, 1, 3)
	put(t, p, 3, item(8, 1))
	wantRows(t, p, 2, 3)
}

func TestTheLastRowOfAVersionCounts(t *testing.T) {
	p := New()
	put(t, p, 2, item(7, 1))
	put(t, p, 2, item(7, 2))
	wantGet(t, p, 2, item(7, 2))
	cut(t, p, 2, 7)
	wantNoItem(t, p, 7, 2, api.ErrNone)
	wantAll(t, p, 2)
	put(t, p, 2, item(7, 3))
	put(t, p, 2, item(8, 1))
	wantRows(t, p, 5, 2)
	wantAll(t, p, 2, item(7, 3), item(8, 1))
	wantAll(t, p, 3, item(7, 3), item(8, 1))
	wantAll(t, p, 1)
	if n := p.Sweep([]uint64{1, 2, 3}); n != 3 {
		t.Errorf("%d rows went", n)
	}
	wantAll(t, p, 2, item(7, 3), item(8, 1))
}

func TestCutOfWhatIsNotThere(t *testing.T) {
	p := New()
	for _, id := range []uint32{0, 7, math.MaxUint32} {
		if e := p.Cut(1, id); e != api.ErrNone {
			t.Error(id, e)
		}
	}
	put(t, p, 1, item(7, 1))
	for _, v := range []uint64{1, 2, math.MaxUint64} {
		for _, id := range []uint32{0, 6, 8, math.MaxUint32} {
			if e := p.Cut(v, id); e != api.ErrNone {
				t.Error(v, id, e)
			}
		}
	}
	wantRows(t, p, 1, 1)
	wantAll(t, p, 1, item(7, 1))
}

func TestCutOfWhatWasCutAlready(t *testing.T) {
	p := New()
	put(t, p, 1, item(7, 1))
	cut(t, p, 1, 7)
	for _, v := range []uint64{1, 2, 9} {
		if e := p.Cut(v, 7); e != api.ErrNone {
			t.Error(v, e)
		}
	}
	wantRows(t, p, 2, 1)
	p.Sweep(nil)
	if e := p.Cut(1, 7); e != api.ErrNone {
		t.Error(e)
	}
	wantRows(t, p, 0, 1)
}

func TestCutOfWhatWasPutAgain(t *testing.T) {
	p := New()
	for n := range int32(5) {
		v := uint64(2*n + 1)
		put(t, p, v, item(7, n))
		wantGet(t, p, v, item(7, n))
		cut(t, p, v+1, 7)
		wantNoItem(t, p, 7, v+1, api.ErrNone)
	}
	wantRows(t, p, 10, 10)
	for n := range int32(5) {
		v := uint64(2*n + 1)
		wantAll(t, p, v, item(7, n))
		wantAll(t, p, v+1)
	}
}

func TestMaxRows(t *testing.T) {
	p := New()
	for i := range uint64(1024) {
		wantRows(t, p, int(i), i)
		put(t, p, i+1, item(uint32(i%5), int32(i)))
	}
	wantRows(t, p, 1024, 1024)
	for _, v := range []uint64{1024, 1025, math.MaxUint64} {
		wantRefused(t, p, v, 3, api.ErrFull)
		if e := p.Put(v, item(99, 1)); e != api.ErrFull {
			t.Error(e)
		}
	}
	wantRows(t, p, 1024, 1024)
	wantAll(t, p, 1024, item(0, 1020), item(1, 1021), item(2, 1022), item(3, 1023), item(4, 1019))
	wantAll(t, p, 2, item(0, 0), item(1, 1))
	wantAll(t, p, math.MaxUint64, item(0, 1020), item(1, 1021), item(2, 1022), item(3, 1023), item(4, 1019))
}

func TestMaxRowsByCuts(t *testing.T) {
	p := New()
	for i := range uint64(512) {
		put(t, p, i+1, item(7, int32(i)))
		cut(t, p, i+1, 7)
	}
	wantRows(t, p, 1024, 512)
	if e := p.Put(512, item(7, 1)); e != api.ErrFull {
		t.Error(e)
	}
	if e := p.Cut(512, 7); e != api.ErrNone {
		t.Error(e)
	}
	p = New()
	put(t, p, 1, item(8, 1))
	for i := range uint64(511) {
		put(t, p, i+1, item(7, int32(i)))
		cut(t, p, i+1, 7)
	}
	cut(t, p, 511, 8)
	wantRows(t, p, 1024, 511)
	wantAll(t, p, 511)
	wantAll(t, p, 510, item(8, 1))
}

func TestWhichErrorComesFirstInAFullPast(t *testing.T) {
	p := New()
	for i := range 1022 {
		put(t, p, 5, item(uint32(i), 1))
	}
	cut(t, p, 5, 3)
	put(t, p, 6, item(4, 2))
	wantRows(t, p, 1024, 6)
	for _, c := range []struct {
		v    uint64
		id   uint32
		want api.Errno
	}{
		{0, 4, api.ErrArg}, {5, 4, api.ErrArg}, {0, 3, api.ErrArg}, {5, 3, api.ErrArg}, {5, 5000, api.ErrArg},
		{6, 3, api.ErrNone}, {7, 3, api.ErrNone}, {6, 5000, api.ErrNone}, {math.MaxUint64, 5000, api.ErrNone},
		{6, 4, api.ErrFull}, {7, 0, api.ErrFull}, {math.MaxUint64, 1021, api.ErrFull},
	} {
		if e := p.Cut(c.v, c.id); e != c.want {
			t.Errorf("Cut(%d, %d) = %d; want %d", c.v, c.id, e, c.want)
		}
		want := api.ErrFull
		if c.v < 6 {
			want = api.ErrArg
		}
		if e := p.Put(c.v, item(c.id, 9)); e != want {
			t.Errorf("Put(%d, %d) = %d; want %d", c.v, c.id, e, want)
		}
	}
	wantRows(t, p, 1024, 6)
	wantGet(t, p, 6, item(4, 2))
	wantGet(t, p, 5, item(4, 1))
}

func TestBehindASweepThereIsRoomAgain(t *testing.T) {
	p := New()
	for i := range uint64(1024) {
		put(t, p, i+1, item(7, int32(i)))
	}
	if n := p.Sweep([]uint64{1, 1000}); n != 1021 {
		t.Errorf("%d rows went", n)
	}
	wantRows(t, p, 3, 1024)
	for i := range uint64(1021) {
		put(t, p, 1024+i, item(8, int32(i)))
	}
	wantRows(t, p, 1024, 2044)
	wantRefused(t, p, 2044, 8, api.ErrFull)
	wantGet(t, p, 1, item(7, 0))
	wantGet(t, p, 1000, item(7, 999))
	wantAll(t, p, 2044, item(7, 1023), item(8, 1020))
}

func TestLastStaysWhenItsRowIsSwept(t *testing.T) {
	p := New()
	put(t, p, 1, item(8, 1))
	put(t, p, 4, item(7, 1))
	cut(t, p, 9, 7)
	if n := p.Sweep(nil); n != 2 {
		t.Errorf("%d rows went", n)
	}
	wantRows(t, p, 1, 9)
	wantRefused(t, p, 8, 8, api.ErrArg)
	cut(t, p, 9, 8)
	p.Sweep(nil)
	wantRows(t, p, 0, 9)
	wantRefused(t, p, 8, 8, api.ErrArg)
	put(t, p, 9, item(8, 2))
	wantRows(t, p, 1, 9)
}

// P8.2

func TestGetAndAllBetweenVersions(t *testing.T) {
	p := New()
	put(t, p, 10, item(7, 1))
	put(t, p, 20, item(8, 1))
	put(t, p, 30, item(7, 2))
	cut(t, p, 40, 8)
	put(t, p, 50, item(9, 1))
	for _, v := range []uint64{0, 1, 9} {
		wantAll(t, p, v)
		wantNoItem(t, p, 7, v, api.ErrNone)
		wantNoItem(t, p, 9, v, api.ErrNone)
	}
	for v := uint64(10); v < 20; v++ {
		wantAll(t, p, v, item(7, 1))
		wantGet(t, p, v, item(7, 1))
		wantNoItem(t, p, 8, v, api.ErrNone)
	}
	for v := uint64(20); v < 30; v++ {
		wantAll(t, p, v, item(7, 1), item(8, 1))
		wantGet(t, p, v, item(8, 1))
	}
	for v := uint64(30); v < 40; v++ {
		wantAll(t, p, v, item(7, 2), item(8, 1))
		wantGet(t, p, v, item(7, 2))
	}
	for v := uint64(40); v < 50; v++ {
		wantAll(t, p, v, item(7, 2))
		wantNoItem(t, p, 8, v, api.ErrNone)
	}
	for _, v := range append(far(), 50, 51, 1000) {
		wantAll(t, p, v, item(7, 2), item(9, 1))
		wantGet(t, p, v, item(9, 1))
		wantNoItem(t, p, 8, v, api.ErrNone)
		wantNoItem(t, p, 0, v, api.ErrNone)
		wantNoItem(t, p, math.MaxUint32, v, api.ErrNone)
	}
}

func TestAllByRisingIds(t *testing.T) {
	ids := []uint32{9, 2, math.MaxUint32, 0, 1 << 31, 5, 1, math.MaxInt32, 128, math.MaxUint32 - 1, 3}
	rising := slices.Sorted(slices.Values(ids))
	for turn := range ids {
		p := New()
		var want []api.Item
		for i, id := range slices.Concat(ids[turn:], ids[:turn]) {
			put(t, p, uint64(i/2)+1, item(id, int32(id)))
		}
		for _, id := range rising {
			want = append(want, item(id, int32(id)))
		}
		wantAll(t, p, 6, want...)
		cut(t, p, 7, 5)
		put(t, p, 8, item(5, 1))
		wantAll(t, p, 6, want...)
		want[slices.Index(rising, 5)].Vec[0] = 1
		wantAll(t, p, 8, want...)
	}
}

func TestManyItemsByRisingIds(t *testing.T) {
	p := New()
	var want []api.Item
	for i := range uint32(1024) {
		put(t, p, 1, item(i*1973%1024*4194301, 1))
		want = append(want, item(i*4194301, 1))
	}
	wantAll(t, p, 1, want...)
	wantAll(t, p, 0)
}

func TestItemsOfEveryField(t *testing.T) {
	var long api.Item
	for i := range int32(1000) {
		long.Vec = append(long.Vec, i*i*7-math.MaxInt32)
		long.Tags = append(long.Tags, string(rune(i)))
	}
	p := New()
	l := []api.Item{
		{},
		{Id: 1, Vec: []int32{}, Tags: []string{}},
		{Id: 2, Vec: []int32{math.MinInt32, -1, 0, 1, math.MaxInt32}},
		{Id: 3, Tags: []string{"", "b", "a", "a", "\xff\x00"}},
		{Id: 4, Vec: make([]int32, 16), Tags: []string{"one", "two"}},
		{Id: math.MaxUint32, Vec: long.Vec, Tags: long.Tags},
	}
	for i, x := range l {
		put(t, p, uint64(i+1), x)
	}
	wantAll(t, p, 6, l...)
	for i, x := range l {
		wantGet(t, p, uint64(i+1), x)
		wantGet(t, p, math.MaxUint64, x)
		cut(t, p, uint64(i+7), x.Id)
		wantNoItem(t, p, x.Id, uint64(i+7), api.ErrNone)
		wantAll(t, p, uint64(i+7), l[i+1:]...)
	}
	if n := p.Sweep([]uint64{6}); n != 0 {
		t.Errorf("%d rows went", n)
	}
	wantAll(t, p, 6, l...)
}

func TestGoneComesAheadOfNone(t *testing.T) {
	p := example(t)
	put(t, p, 4, item(8, 1))
	p.Sweep([]uint64{2})
	wantNoItem(t, p, 9, 1, api.ErrGone)
	wantNoItem(t, p, 8, 1, api.ErrGone)
	wantNoItem(t, p, 7, 1, api.ErrGone)
	wantNoItem(t, p, 7, 3, api.ErrGone)
	wantNoItem(t, p, 8, 0, api.ErrGone)
	wantNoItem(t, p, 8, 2, api.ErrNone)
	wantNoItem(t, p, 7, 4, api.ErrNone)
	wantGone(t, p, 0, 7, 8)
	wantGone(t, p, 1, 7, 8)
	wantGone(t, p, 3, 7, 8)
}

// The rules that hold everywhere

// overwrite writes over an item's lists, and over their spare room.
func overwrite(x api.Item) {
	for i := range x.Vec[:cap(x.Vec)] {
		x.Vec[:cap(x.Vec)][i] = -77
	}
	for i := range x.Tags[:cap(x.Tags)] {
		x.Tags[:cap(x.Tags)][i] = "over"
	}
}

func TestAnItemThatWasHandedInMayBeWrittenOver(t *testing.T) {
	p := New()
	vec, tags := []int32{1, 2, 3, 4}, []string{"a", "b", "c", "d"}
	x := api.Item{Id: 7, Vec: vec[:2], Tags: tags[:2]}
	put(t, p, 1, x)
	if !slices.Equal(vec, []int32{1, 2, 3, 4}) || !slices.Equal(tags, []string{"a", "b", "c", "d"}) {
		t.Error(vec, tags)
	}
	want := deep(x)
	overwrite(x)
	wantGet(t, p, 1, want)
	wantAll(t, p, 1, want)
	put(t, p, 1, x)
	wantGet(t, p, 1, x)
	p = New()
	put(t, p, 1, want)
	y := deep(want)
	put(t, p, 2, y)
	overwrite(y)
	p.Sweep([]uint64{1})
	wantGet(t, p, 1, want)
	wantGet(t, p, 2, want)
}

func TestItemsThatWereToldMayBeWrittenOver(t *testing.T) {
	p := New()
	a := api.Item{Id: 7, Vec: []int32{1, 2, 3}, Tags: []string{"a", "b", "c"}}
	b := api.Item{Id: 8, Vec: []int32{4, 5, 6}, Tags: []string{"d", "e"}}
	put(t, p, 1, a)
	put(t, p, 1, b)
	for range 3 {
		first, _ := p.Get(7, 1)
		second, _ := p.Get(7, 1)
		overwrite(first)
		if !same(second, a) {
			t.Error("two items that were told share memory")
		}
		wantAll(t, p, 1, a, b)
		one, _ := p.All(1)
		other, _ := p.All(1)
		overwrite(one[0])
		if !same(one[1], b) || !same(other[0], a) {
			t.Error("items of All share memory")
		}
		for i := range one[:cap(one)] {
			overwrite(one[:cap(one)][i])
			one[:cap(one)][i] = api.Item{Id: 1}
		}
		if !same(other[0], a) || !same(other[1], b) {
			t.Error("two lists of All share memory")
		}
		wantAll(t, p, 1, a, b)
		wantGet(t, p, 1, a)
		if n := p.Sweep([]uint64{1}); n != 0 {
			t.Error(n)
		}
	}
}

func TestWhatWasToldStaysAsItWas(t *testing.T) {
	p := New()
	put(t, p, 1, item(7, 1))
	x, _ := p.Get(7, 1)
	l, _ := p.All(1)
	put(t, p, 1, item(7, 2))
	put(t, p, 1, item(6, 2))
	cut(t, p, 1, 7)
	p.Sweep(nil)
	put(t, p, 2, item(8, 3))
	if !same(x, item(7, 1)) || len(l) != 1 || !same(l[0], item(7, 1)) {
		t.Error(x, l)
	}
}

func TestKeepMayBeWrittenOver(t *testing.T) {
	p := New()
	for v := range uint64(9) {
		put(t, p, v+1, item(7, int32(v+1)))
	}
	room := []uint64{7, 2, 2, 5, 100, 3, 8}
	keep := room[:5]
	if n := p.Sweep(keep); n != 5 {
		t.Errorf("%d rows went", n)
	}
	if !slices.Equal(room, []uint64{7, 2, 2, 5, 100, 3, 8}) {
		t.Error(room)
	}
	for i := range room {
		room[i] = 4
	}
	for _, v := range []uint64{2, 5, 7, 9} {
		wantGet(t, p, v, item(7, int32(v)))
	}
	for _, v := range []uint64{0, 1, 3, 4, 6, 8} {
		wantGone(t, p, v, 7)
	}
}

func TestTwoPastsDoNotTouch(t *testing.T) {
	p, q := New(), New()
	put(t, p, 5, item(7, 1))
	wantRows(t, q, 0, 0)
	wantAll(t, q, 5)
	put(t, q, 1, item(7, 2))
	put(t, q, 2, item(7, 3))
	wantAll(t, p, 5, item(7, 1))
	p.Sweep(nil)
	wantGone(t, p, 1, 7)
	wantGet(t, q, 1, item(7, 2))
	wantRows(t, q, 2, 2)
	q.Sweep([]uint64{1})
	wantGone(t, p, 1, 7)
	cut(t, p, 5, 7)
	wantGet(t, q, 2, item(7, 3))
	wantRows(t, p, 2, 5)
}

func TestAskingChangesNothing(t *testing.T) {
	b := newPair(t)
	b.put(1, item(7, 1), api.OK)
	b.put(2, item(8, 1), api.OK)
	b.cut(3, 7, api.OK)
	for range 3 {
		b.wantAlike()
	}
	b.sweep(0, 2)
	for range 3 {
		b.wantAlike()
	}
}
