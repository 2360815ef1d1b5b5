package store

import (
	"math"
	"slices"
	"strings"
	"testing"

	"lodestar/api"
)

// P9.2

func TestMaxItemsChanges(t *testing.T) {
	s := with(t, "a")
	wantRefused(t, s, "a", api.ErrFull, many(1, 129, 1)...)
	wantRefused(t, s, "a", api.ErrFull, make([]api.Change, 129)...)
	wantRefused(t, s, "a", api.ErrFull, slices.Repeat([]api.Change{put(1, 1)}, 129)...)
	wantRefused(t, s, "a", api.ErrFull, slices.Repeat([]api.Change{put(1, 1), gone(1)}, 65)...)
	wantRefused(t, s, "b", api.ErrNone, many(1, 129, 1)...)
	wantWrite(t, s, "a", 1, slices.Repeat([]api.Change{put(1, 1), gone(1)}, 64)...)
	wantThere(t, s, "a", 0)
	wantWrite(t, s, "a", 2, many(1, 128, 3)...)
	if s.Size("a") != 128 || s.Rows("a") != 128 {
		t.Error(s.Size("a"), s.Rows("a"))
	}
}

// wrongs are changes that may not be for a conf of one part, or not where no item is there.
func wrongs() []struct {
	x    api.Change
	want api.Errno
} {
	of := func(id uint32, vec []int32, tags ...string) api.Change {
		return api.Change{Item: api.Item{Id: id, Vec: vec, Tags: tags}}
	}
	one := []int32{1}
	long := strings.Repeat("t", 17)
	return []struct {
		x    api.Change
		want api.Errno
	}{
		{api.Change{}, api.ErrArg}, {put(0, 1), api.ErrArg}, {gone(0), api.ErrArg}, {of(0, []int32{1 << 30, 1}, "", ""), api.ErrArg},
		{of(5, nil), api.ErrDim}, {of(5, []int32{1, 1}), api.ErrDim}, {of(5, []int32{1 << 30, 1}), api.ErrDim}, {of(5, nil, ""), api.ErrDim},
		{put(5, 1<<20+1), api.ErrPart}, {put(5, -1<<20-1), api.ErrPart}, {put(5, math.MinInt32), api.ErrPart}, {put(5, 1<<20+1, ""), api.ErrPart},
		{of(5, one, ""), api.ErrTag}, {of(5, one, "b", "a"), api.ErrTag}, {of(5, one, "a", "a"), api.ErrTag}, {of(5, one, long), api.ErrTag},
		{of(5, one, "1", "2", "3", "4", "5", "6", "7", "8", "9"), api.ErrTag},
		{gone(200), api.ErrNone},
	}
}

func TestEachErrorOfAChangeInEachPlace(t *testing.T) {
	for _, c := range wrongs() {
		s := with(t, "a", "b")
		wantWrite(t, s, "a", 1, put(1, 1), put(2, 1))
		wantPin(t, s, "a", 1, 1)
		wantWrite(t, s, "a", 2, put(1, 2), gone(2))
		good := []api.Change{put(1, 9), gone(1), put(3, 9), put(1, 8), put(2, 7)}
		for at := range len(good) + 1 {
			wantRefused(t, s, "a", c.want, slices.Insert(slices.Clone(good), at, c.x)...)
			wantRefused(t, s, "c", api.ErrNone, slices.Insert(slices.Clone(good), at, c.x)...)
		}
		wantWrite(t, s, "a", 3, good...)
	}
}

func TestTheFirstChangeThatMayNotBeTellsItsError(t *testing.T) {
	s := with(t, "a")
	for _, c := range wrongs() {
		for _, d := range wrongs() {
			wantRefused(t, s, "a", c.want, put(7, 1), c.x, d.x)
		}
	}
}

func TestChangesAtTheirBounds(t *testing.T) {
	s := New()
	wantCreate(t, s, api.Conf{Name: "a", Dim: 16}, api.OK)
	vec := slices.Repeat([]int32{1 << 20, -1 << 20}, 8)
	tags := []string{"\x00", "1", "2", "3", "4", "5", "6", strings.Repeat("t", 16)}
	x := api.Item{Id: math.MaxUint32, Vec: vec, Tags: tags}
	wantWrite(t, s, "a", 1, api.Change{Item: x})
	wantThere(t, s, "a", 1, x)
	for _, vec := range [][]int32{vec[:15], append(slices.Clone(vec), 1)} {
		wantRefused(t, s, "a", api.ErrDim, api.Change{Item: api.Item{Id: 1, Vec: vec}})
	}
}

func TestOfWhatIsGoneTheIdAloneCounts(t *testing.T) {
	s := with(t, "a")
	wantWrite(t, s, "a", 1, put(1, 1, "t"), put(2, 2))
	x := api.Change{Gone: true, Item: api.Item{Id: 1, Vec: []int32{math.MinInt32, 1, 2}, Tags: []string{"", "z", "a"}}}
	wantWrite(t, s, "a", 2, x)
	wantThere(t, s, "a", 1, item(2, 2))
	wantNoItem(t, s, "a", 1)
	wantRefused(t, s, "a", api.ErrNone, x)
	x.Item.Id = 0
	wantRefused(t, s, "a", api.ErrArg, x)
}

func TestOneIdSeveralTimesInAWrite(t *testing.T) {
	s := with(t, "a")
	wantWrite(t, s, "a", 1, put(1, 1), put(1, 2), put(1, 3, "t"))
	wantThere(t, s, "a", 1, item(1, 3, "t"))
	wantWrite(t, s, "a", 2, put(1, 4), put(1, 5), gone(1), put(1, 6))
	wantThere(t, s, "a", 1, item(1, 6))
	wantWrite(t, s, "a", 3, gone(1), put(1, 7), put(2, 7), gone(1), put(3, 7), gone(3))
	wantThere(t, s, "a", 1, item(2, 7))
	wantNoItem(t, s, "a", 1, 3)
	wantPin(t, s, "a", 1, 3)
	wantWrite(t, s, "a", 4, put(1, 8), gone(1))
	wantThere(t, s, "a", 1, item(2, 7))
	wantWrite(t, s, "a", 5, put(1, 9), put(1, 10), gone(2), put(2, 9), gone(2))
	wantThere(t, s, "a", 3, item(1, 10))
	wantPinned(t, s, 1, conf("a"), item(2, 7))
}

func TestGoneOfWhatIsNotThere(t *testing.T) {
	s := with(t, "a", "b")
	wantRefused(t, s, "a", api.ErrNone, gone(1))
	wantWrite(t, s, "b", 1, put(1, 1))
	wantRefused(t, s, "a", api.ErrNone, gone(1))
	wantRefused(t, s, "a", api.ErrNone, gone(1), put(1, 1))
	wantWrite(t, s, "a", 2, put(1, 1), gone(1))
	wantRefused(t, s, "a", api.ErrNone, gone(1))
	wantRefused(t, s, "a", api.ErrNone, put(1, 1), gone(1), gone(1))
	wantRefused(t, s, "a", api.ErrNone, put(1, 1), gone(2), put(2, 1))
	wantWrite(t, s, "a", 3, put(1, 1))
	wantPin(t, s, "a", 1, 3)
	wantWrite(t, s, "a", 4, gone(1))
	wantRefused(t, s, "a", api.ErrNone, gone(1))
	wantRefused(t, s, "a", api.ErrNone, gone(math.MaxUint32))
	wantUnpin(t, s, 1, true)
	wantRefused(t, s, "a", api.ErrNone, gone(1))
}

func TestMaxItems(t *testing.T) {
	s := with(t, "a")
	wantWrite(t, s, "a", 1, many(1, 127, 1)...)
	wantRefused(t, s, "a", api.ErrFull, put(128, 1), put(129, 1))
	wantWrite(t, s, "a", 2, put(128, 1))
	wantRefused(t, s, "a", api.ErrFull, put(129, 1))
	wantRefused(t, s, "a", api.ErrFull, put(1, 2), put(129, 1))
	wantRefused(t, s, "a", api.ErrFull, gone(1), put(129, 1), put(130, 1))
	wantRefused(t, s, "a", api.ErrFull, put(129, 1), gone(1), put(1, 2))
	wantRefused(t, s, "a", api.ErrFull, many(200, 128, 1)...)
	wantWrite(t, s, "a", 3, put(128, 2))
	wantWrite(t, s, "a", 4, gone(1), put(129, 1))
	// What is there between the changes counts for nothing.
	wantWrite(t, s, "a", 5, put(130, 1), put(131, 1), gone(2), gone(130))
	wantWrite(t, s, "a", 6, put(250, 1), gone(250))
	if s.Size("a") != 128 || s.Rows("a") != 128 {
		t.Error(s.Size("a"), s.Rows("a"))
	}
	wantNoItem(t, s, "a", 1, 2, 130, 250)
	wantWrite(t, s, "a", 7, gone(3))
	wantWrite(t, s, "a", 8, put(250, 1))
	wantRefused(t, s, "a", api.ErrFull, put(251, 1))
}

func TestAWriteWithoutChanges(t *testing.T) {
	s := with(t, "a", "b")
	wantWrite(t, s, "a", 0)
	wantRefused(t, s, "c", api.ErrNone)
	wantWrite(t, s, "a", 1, put(1, 1))
	wantWrite(t, s, "b", 1)
	wantPin(t, s, "a", 1, 1)
	wantWrite(t, s, "b", 2, put(1, 1))
	before := tellAll(s)
	wantWrite(t, s, "a", 2)
	wantWrite(t, s, "b", 2)
	wantTold(t, s, before)
}

func TestEachWriteWithChangesIsAVersion(t *testing.T) {
	s := with(t, "a")
	wantWrite(t, s, "a", 1, put(1, 1))
	wantWrite(t, s, "a", 2, put(1, 1))
	wantWrite(t, s, "a", 3, put(2, 1), gone(2))
	wantThere(t, s, "a", 1, item(1, 1))
}

// full gives a store whose collection a has 8 times 128 rows, of versions 1 to 8. Its pins 1 to 7 hold the first seven.
func full(t *testing.T) *Store {
	t.Helper()
	s := with(t, "a", "b")
	for v := 1; v < 9; v++ {
		wantWrite(t, s, "a", uint64(v), many(1, 128, int32(v))...)
		if s.Rows("a") != 128*v {
			t.Errorf("%d rows at %d", s.Rows("a"), v)
		}
		if v < 8 {
			wantPin(t, s, "a", v, uint64(v))
		}
	}
	return s
}

func TestMaxRows(t *testing.T) {
	s := full(t)
	for range 2 {
		for _, l := range [][]api.Change{{put(1, 9)}, {gone(1)}, {gone(1), put(200, 1)}, many(1, 128, 9)} {
			wantRefused(t, s, "a", api.ErrFull, l...)
		}
		wantPin(t, s, "a", s.lastPin+1, 8)
	}
	wantWrite(t, s, "b", 9, put(1, 1))
	wantWrite(t, s, "a", 9)
	wantUnpin(t, s, 3, true)
	wantRefused(t, s, "a", api.ErrFull, append(many(1, 128, 9), put(1, 10))...)
	wantWrite(t, s, "a", 10, many(1, 128, 10)...)
	wantRefused(t, s, "a", api.ErrFull, put(1, 11))
	for _, n := range []int{1, 2, 4, 5, 6, 7} {
		l, _, e := s.Pinned(n)
		if e != api.OK || len(l) != 128 || l[0].Vec[0] != int32(n) || l[127].Vec[0] != int32(n) {
			t.Error(n, e, l)
		}
	}
	if l, _, e := s.Pinned(8); e != api.OK || len(l) != 128 || l[0].Vec[0] != 8 {
		t.Error(e, l)
	}
}

func TestEachChangeCountsAgainstMaxRows(t *testing.T) {
	s := full(t)
	wantUnpin(t, s, 7, true)
	// 896 rows are needed: there is room for 128 changes, however few items they are of, and what of them is swept behind them.
	wantRefused(t, s, "a", api.ErrFull, slices.Repeat([]api.Change{put(1, 9)}, 129)...)
	wantWrite(t, s, "a", 9, slices.Repeat([]api.Change{put(1, 9)}, 128)...)
	if s.Rows("a") != 896 {
		t.Error(s.Rows("a"))
	}
	wantPin(t, s, "a", 8, 9)
	wantWrite(t, s, "a", 10, many(1, 100, 10)...)
	if s.Rows("a") != 996 {
		t.Error(s.Rows("a"))
	}
	wantRefused(t, s, "a", api.ErrFull, slices.Repeat([]api.Change{put(1, 11)}, 29)...)
	wantRefused(t, s, "a", api.ErrFull, append(slices.Repeat([]api.Change{put(1, 11), gone(1)}, 14), put(1, 11))...)
	wantWrite(t, s, "a", 11, slices.Repeat([]api.Change{gone(1), put(1, 11)}, 14)...)
	if s.Rows("a") != 996 {
		t.Error(s.Rows("a"))
	}
}

func TestMaxCount(t *testing.T) {
	s := with(t, "a", "b")
	wantWrite(t, s, "a", 1, put(1, 1))
	s.version.Store(1<<30 - 1) // so many writes would take too long
	wantPin(t, s, "a", 1, 1<<30-1)
	wantWrite(t, s, "a", 1<<30, put(1, 2))
	wantPin(t, s, "a", 2, 1<<30)
	wantRefused(t, s, "a", api.ErrCount, put(1, 3))
	wantRefused(t, s, "b", api.ErrCount, put(1, 3))
	wantRefused(t, s, "a", api.ErrCount, gone(1))
	wantRefused(t, s, "a", api.ErrCount)
	wantPinned(t, s, 1, conf("a"), item(1, 1))
	wantPinned(t, s, 2, conf("a"), item(1, 2))
	wantThere(t, s, "a", 2, item(1, 2))
}

func TestWhichErrorOfWriteComesFirst(t *testing.T) {
	s := full(t)
	s.version.Store(1 << 30)
	bad := append(many(1, 127, 1), put(0, 0))
	wantRefused(t, s, "c", api.ErrNone, append(bad, put(1, 1))...)
	wantRefused(t, s, "a", api.ErrFull, append(bad, put(1, 1))...)
	wantRefused(t, s, "a", api.ErrArg, append(many(200, 127, 1), put(0, 0))...)
	wantRefused(t, s, "a", api.ErrNone, append(many(200, 90, 1), gone(299), put(0, 0))...)
	wantRefused(t, s, "a", api.ErrFull, put(200, 1))
	wantRefused(t, s, "a", api.ErrCount, put(1, 1))
	s.version.Store(1<<30 - 1)
	wantRefused(t, s, "a", api.ErrFull, put(1, 1))
	wantUnpin(t, s, 1, true)
	wantWrite(t, s, "a", 1<<30, put(1, 1))
}

func TestWhatIsRefusedOfOneItemIsRefusedOfAll(t *testing.T) {
	s := with(t, "a")
	wantWrite(t, s, "a", 1, put(1, 1), put(2, 2))
	wantRefused(t, s, "a", api.ErrNone, put(1, 9), gone(2), put(3, 9), gone(4))
	wantThere(t, s, "a", 2, item(1, 1), item(2, 2))
	wantNoItem(t, s, "a", 3)
	wantWrite(t, s, "a", 2, put(1, 9), gone(2), put(3, 9))
	wantThere(t, s, "a", 2, item(1, 9), item(3, 9))
}
