package cursor

import (
	"math"
	"slices"
	"testing"

	"lodestar/api"
)

// P14.2

func TestTakeOfWhatIsNotItsOwn(t *testing.T) {
	s := New(3)
	wantOpen(t, s, 7, 11, 0, 1)
	wantOpen(t, s, 8, 12, 0, 2)
	wantOpen(t, s, 7, 13, 0, 3)
	wantClose(t, s, 7, 3, 13)
	s.Told(1, 1, hits(1))
	for _, n := range []uint32{0, 2, 3, 4, 1 << 8, 1<<8 + 1, 1<<16 + 1, 1<<31 + 1, math.MaxUint32} {
		wantNotOwn(t, s, 7, n)
	}
	for _, owner := range []uint64{0, 8, 1<<32 + 7, math.MaxUint64} {
		wantNotOwn(t, s, owner, 1)
	}
	wantPages(t, s, 7, 1, 1, 0, first(11), behind(11, 1))
	wantPages(t, s, 8, 2, 0, 0, api.Ask{}, first(12))
}

func TestPagesThatMayBeTaken(t *testing.T) {
	s := New(3)
	wantOpen(t, s, 7, 5, 0, 1)
	wantPages(t, s, 7, 1, 0, 0, api.Ask{}, first(5))
	s.Told(1, 1, hits(1, 2))
	wantPages(t, s, 7, 1, 1, 0, first(5), behind(5, 2))
	s.Told(1, 2, hits(3))
	wantPages(t, s, 7, 1, 2, 0, behind(5, 2), behind(5, 3))
	for page := uint32(3); page < 600; page++ {
		s.Told(1, page, hits(0, int(page)+1))
		wantPages(t, s, 7, 1, page, 0, behind(5, int(page)), behind(5, int(page)+1))
	}
}

func TestEndsOfPages(t *testing.T) {
	for _, c := range []struct {
		pages [][]api.Hit
		ends  []int // of each page its last hit; 0: it is behind none
	}{
		{[][]api.Hit{nil}, []int{0}},
		{[][]api.Hit{{}, nil, {}, nil}, []int{0, 0, 0, 0}},
		{[][]api.Hit{hits(4)}, []int{4}},
		{[][]api.Hit{hits(4, 5, 6)}, []int{6}},
		{[][]api.Hit{hits(6, 5, 4)}, []int{4}},
		{[][]api.Hit{hits(4, 4), hits(4)}, []int{4, 4}},
		{[][]api.Hit{nil, hits(3), nil}, []int{0, 3, 3}},
		{[][]api.Hit{nil, nil, hits(3, 4), nil, nil, nil, hits(9), hits(2, 1), nil}, []int{0, 0, 4, 4, 4, 4, 9, 1, 1}},
		{[][]api.Hit{hits(1, 2, 3), {}, hits(4), {}, {}}, []int{3, 3, 4, 4, 4}},
		{[][]api.Hit{hits(slices.Repeat([]int{7, 8}, 500)...), hits(1)}, []int{8, 1}},
	} {
		s := New(3)
		wantOpen(t, s, 7, 5, 0, 1)
		again, next := api.Ask{}, first(5)
		wantPages(t, s, 7, 1, 0, 0, again, next)
		for i, l := range c.pages {
			s.Told(1, uint32(i+1), l)
			again, next = next, first(5)
			if c.ends[i] > 0 {
				next = behind(5, c.ends[i])
			}
			wantPages(t, s, 7, 1, uint32(i+1), 0, again, next)
		}
	}
}

func TestAnyHitIsAnEnd(t *testing.T) {
	for _, h := range []api.Hit{{}, {Dist: -1}, {Id: math.MaxUint32}, {Dist: math.MinInt64, Id: 1}, {Dist: math.MaxInt64, Id: 1 << 31}} {
		s := New(3)
		wantOpen(t, s, 7, 5, 0, 1)
		s.Told(1, 1, []api.Hit{hit(9), h})
		want := first(5)
		want.Has, want.Last = true, h
		wantPages(t, s, 7, 1, 1, 0, first(5), want)
		s.Told(1, 2, nil)
		wantPages(t, s, 7, 1, 2, 0, want, want)
	}
}

func TestToldAgain(t *testing.T) {
	s := New(3)
	wantOpen(t, s, 7, 5, 0, 1)
	for _, c := range []struct {
		hits []api.Hit
		next api.Ask
	}{
		{hits(1, 2), behind(5, 2)}, {hits(1, 2), behind(5, 2)}, {hits(1, 3), behind(5, 3)}, {hits(1), behind(5, 1)},
		{nil, first(5)}, {hits(4, 5, 6), behind(5, 6)}, {[]api.Hit{}, first(5)}, {nil, first(5)}, {hits(1, 2), behind(5, 2)},
	} {
		wantTake(t, s, 7, 1, 1, 0, first(5))
		s.Told(1, 1, c.hits)
		wantPages(t, s, 7, 1, 1, 0, first(5), c.next)
	}
	s.Told(1, 2, hits(7))
	for _, c := range []struct {
		hits []api.Hit
		next api.Ask
	}{
		{hits(7), behind(5, 7)}, {hits(8, 9), behind(5, 9)}, {nil, behind(5, 2)}, {nil, behind(5, 2)}, {hits(3), behind(5, 3)},
	} {
		wantTake(t, s, 7, 1, 2, 0, behind(5, 2))
		s.Told(1, 2, c.hits)
		wantPages(t, s, 7, 1, 2, 0, behind(5, 2), c.next)
	}
	s.Told(1, 3, nil)
	wantPages(t, s, 7, 1, 3, 0, behind(5, 3), behind(5, 3))
	s.Told(1, 3, hits(4))
	wantPages(t, s, 7, 1, 3, 0, behind(5, 3), behind(5, 4))
	s.Told(1, 3, nil)
	wantPages(t, s, 7, 1, 3, 0, behind(5, 3), behind(5, 3))
}

func TestTakeTellsNothing(t *testing.T) {
	s := New(3)
	wantOpen(t, s, 7, 5, 0, 1)
	for range 5 {
		wantTake(t, s, 7, 1, 1, 0, first(5))
		wantNoTake(t, s, 7, 1, 2, 0, api.ErrArg)
	}
	s.Told(1, 1, hits(1))
	for range 5 {
		wantTake(t, s, 7, 1, 2, 0, behind(5, 1))
		wantTake(t, s, 7, 1, 1, 0, first(5))
		wantNoTake(t, s, 7, 1, 3, 0, api.ErrArg)
	}
}

func TestToldOfWhatTakeWouldNotTake(t *testing.T) {
	s := New(3)
	wantOpen(t, s, 7, 5, 0, 1)
	wantOpen(t, s, 7, 6, 0, 2)
	for told := uint32(0); told < 6; told++ {
		for _, page := range beside(told) {
			wantNotTold(t, s, 1, page)
		}
		s.Told(1, told+1, hits(int(told)+1))
	}
	for _, n := range []uint32{0, 3, 4, 1<<8 + 1, 1<<31 + 1, math.MaxUint32} {
		for _, page := range []uint32{0, 1, 2, 6, 7} {
			wantNotTold(t, s, n, page)
		}
	}
	wantPages(t, s, 7, 1, 6, 0, behind(5, 5), behind(5, 6))
	wantPages(t, s, 7, 2, 0, 0, api.Ask{}, first(6))
}

func TestToldOfOneThatIsGone(t *testing.T) {
	s := New(3)
	for n := uint32(1); n <= 3; n++ {
		wantOpen(t, s, uint64(n), int(10+n), n, n)
		s.Told(n, 1, hits(1))
	}
	wantClose(t, s, 1, 1, 11)
	wantLeave(t, s, 2, 12)
	wantTick(t, s, 7, 13)
	for n := uint32(1); n <= 3; n++ {
		for _, page := range []uint32{0, 1, 2, 3} {
			wantNotTold(t, s, n, page)
		}
	}
	wantOpen(t, s, 1, 14, 0, 4)
	wantPages(t, s, 1, 4, 0, 0, api.Ask{}, first(14))
}

func TestCursorsSideBySide(t *testing.T) {
	s := New(3)
	for n := uint32(1); n <= 4; n++ {
		if got, _ := s.Open(7, int(10+n), []int32{int32(n)}, api.Filter{Any: []string{"ab"[:1+n%2]}}, 0); got != n {
			t.Fatal(got)
		}
		for page := uint32(1); page < n; page++ {
			s.Told(n, page, hits(int(10*n+page)))
		}
	}
	for n := uint32(1); n <= 4; n++ {
		again := api.Ask{Pin: int(10 + n), Vec: []int32{int32(n)}, Filter: api.Filter{Any: []string{"ab"[:1+n%2]}}}
		next := again
		if n > 1 {
			next.Has, next.Last = true, hit(int(10*n+n-1))
		}
		if n > 2 {
			again.Has, again.Last = true, hit(int(10*n+n-2))
		}
		wantPages(t, s, 7, n, n-1, 0, again, next)
	}
}
