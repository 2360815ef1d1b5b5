package cursor

import (
	"math"
	"slices"
	"testing"

	"lodestar/api"
)

// filled gives a table of as many cursors as may be, of the owner 7, with the pins 11, 12 and so on, used at these ticks.
func filled(t *testing.T, idle uint32, ticks ...uint32) *Table {
	t.Helper()
	s := New(idle)
	for i := range api.MaxCursors {
		wantOpen(t, s, 7, 11+i, ticks[i], uint32(i+1))
	}
	return s
}

// P14.1

func TestATableWithoutCursors(t *testing.T) {
	for _, idle := range []uint32{0, 3, math.MaxUint32} {
		s := New(idle)
		wantLen(t, s, 0)
		for _, n := range []uint32{0, 1, 2, math.MaxUint32} {
			wantNone(t, s, n)
		}
		for _, owner := range []uint64{0, 1, math.MaxUint64} {
			wantLeave(t, s, owner)
		}
		for _, now := range []uint32{0, 1, math.MaxUint32} {
			wantTick(t, s, now)
		}
		wantLen(t, s, 0)
		wantOpen(t, s, 7, 5, 0, 1)
	}
}

func TestExamples(t *testing.T) {
	s := New(3)
	wantOpen(t, s, 7, 5, 0, 1)
	wantTake(t, s, 7, 1, 1, 0, first(5))
	s.Told(1, 1, []api.Hit{{Dist: 1, Id: 5}, {Dist: 2, Id: 6}})
	want := first(5)
	want.Has, want.Last = true, api.Hit{Dist: 2, Id: 6}
	wantTake(t, s, 7, 1, 2, 0, want)
	wantTake(t, s, 7, 1, 1, 0, first(5))
	wantNoTake(t, s, 7, 1, 3, 0, api.ErrArg)
}

func TestNumbersAsCursorsCome(t *testing.T) {
	s := New(3)
	for n := uint32(1); n <= 3; n++ {
		wantOpen(t, s, 7, int(20+n), 0, n)
	}
	wantClose(t, s, 7, 3, 23)
	wantOpen(t, s, 7, 24, 0, 4)
	wantLeave(t, s, 7, 21, 22, 24)
	wantOpen(t, s, 8, 25, 1, 5)
	wantTick(t, s, 5, 25)
	for n := uint32(6); n <= 13; n++ {
		wantOpen(t, s, 8, int(20+n), n, n)
	}
	wantPush(t, s, 8, 34, 14, 14, 26)
	wantPush(t, s, 8, 35, 15, 15, 27)
	for n := range uint32(8) {
		wantNone(t, s, n)
	}
}

func TestNumbersAreNeverUsedAgain(t *testing.T) {
	s := New(0)
	d := dice(5)
	for n := uint32(1); n <= 3000; n++ {
		if got, _ := open(s, 7, 1, uint32(d.upTo(100))); got != n {
			t.Fatalf("the number %d; want %d", got, n)
		}
		switch d.upTo(12) {
		case 0:
			s.Leave(7)
		case 1:
			s.Tick(uint32(d.upTo(100)))
		case 2, 3, 4:
			s.Close(7, n)
		}
	}
}

func TestRefusedCallsUseUpNoNumbers(t *testing.T) {
	s := New(3)
	wantOpen(t, s, 7, 5, 0, 1)
	wantNoTake(t, s, 7, 1, 2, 0, api.ErrArg)
	wantNotOwn(t, s, 7, 2)
	wantNotTold(t, s, 2, 1)
	wantLeave(t, s, 8)
	wantTick(t, s, 3)
	wantOpen(t, s, 7, 6, 0, 2)
}

func TestWhichOneGoes(t *testing.T) {
	const most = math.MaxUint32
	for _, c := range []struct {
		ticks [api.MaxCursors]uint32
		want  uint32 // the number of the one that goes
	}{
		{[...]uint32{0, 0, 0, 0, 0, 0, 0, 0}, 1},
		{[...]uint32{1, 2, 3, 4, 5, 6, 7, 8}, 1},
		{[...]uint32{8, 7, 6, 5, 4, 3, 2, 1}, 8},
		{[...]uint32{5, 4, 3, 2, 2, 3, 4, 5}, 4},
		{[...]uint32{9, 9, 9, 9, 9, 9, 0, 0}, 7},
		{[...]uint32{2, 1, 1, 1, 1, 1, 1, 1}, 2},
		{[...]uint32{most, most, most, most, most, most, most, most}, 1},
		{[...]uint32{most, most, most, most, most, most, most, most - 1}, 8},
		{[...]uint32{1 << 31, 1<<31 - 1, 1 << 31, most, most, 1 << 31, 1 << 31, 1 << 31}, 2},
		{[...]uint32{256, 65536, 1 << 24, 255, 512, 1 << 31, 300, 257}, 4},
	} {
		for _, now := range []uint32{0, 1, 100, most} {
			s := filled(t, 3, c.ticks[:]...)
			wantPush(t, s, 8, 99, now, 9, int(10+c.want))
			wantNone(t, s, c.want)
			for n := uint32(1); n <= 8; n++ {
				if n != c.want {
					wantTake(t, s, 7, n, 1, 0, first(int(10+n)))
				}
			}
			wantTake(t, s, 8, 9, 1, 0, first(99))
		}
	}
}

func TestOneGoesForEachThatComes(t *testing.T) {
	s := filled(t, 3, 4, 3, 2, 1, 8, 7, 6, 5)
	for i, want := range []int{14, 13, 12, 11, 18, 17, 16, 15, 30, 31} {
		wantPush(t, s, 8, 30+i, 20, uint32(9+i), want)
	}
}

func TestTheOneThatCameLastMayGo(t *testing.T) {
	s := filled(t, 3, 4, 4, 4, 4, 4, 4, 4, 4)
	wantPush(t, s, 8, 30, 0, 9, 11)
	wantPush(t, s, 8, 31, 0, 10, 30)
	wantPush(t, s, 8, 32, 5, 11, 31)
	wantPush(t, s, 8, 33, 5, 12, 12)
}

func TestTakeMovesTheTickOfUse(t *testing.T) {
	s := filled(t, 3, 1, 2, 3, 4, 5, 6, 7, 8)
	wantTake(t, s, 7, 1, 1, 9, first(11))
	wantTake(t, s, 7, 3, 1, 4, first(13))
	wantTake(t, s, 7, 8, 1, 3, first(18)) // back
	for i, want := range []int{12, 18, 13, 14, 15, 16, 17, 11} {
		wantPush(t, s, 8, 30+i, 20, uint32(9+i), want)
	}
}

func TestTakeOfAToldPageMovesTheTickOfUse(t *testing.T) {
	s := filled(t, 3, 1, 2, 3, 4, 5, 6, 7, 8)
	s.Told(1, 1, hits(1))
	wantTake(t, s, 7, 1, 1, 9, first(11))
	wantPush(t, s, 8, 30, 20, 9, 12)
}

func TestOthersDoNotMoveTheTickOfUse(t *testing.T) {
	s := filled(t, 30, 1, 2, 3, 4, 5, 6, 7, 8)
	s.Told(1, 1, hits(1))
	s.Told(1, 1, nil)
	s.Told(1, 2, hits(2))
	wantNoTake(t, s, 7, 1, 0, 9, api.ErrArg)
	wantNoTake(t, s, 7, 1, 1, 9, api.ErrArg)
	wantNoTake(t, s, 7, 1, 4, 9, api.ErrArg)
	wantNotOwn(t, s, 8, 1)
	wantTick(t, s, 20)
	wantLeave(t, s, 8)
	wantPush(t, s, 8, 30, 20, 9, 11)
}

func TestRoomWhenOneIsGone(t *testing.T) {
	for _, c := range []func(t *testing.T, s *Table){
		func(t *testing.T, s *Table) { wantClose(t, s, 7, 8, 18) },
		func(t *testing.T, s *Table) { wantTick(t, s, 8, 15) },
		func(t *testing.T, s *Table) { wantLeave(t, s, 7, 11, 12, 13, 14, 15, 16, 17, 18) },
	} {
		s := filled(t, 3, 9, 9, 9, 9, 4, 5, 6, 9)
		c(t, s)
		n := uint32(9)
		for ; s.Len() < api.MaxCursors; n++ {
			wantOpen(t, s, 8, 30, 9, n)
		}
		if got, went := open(s, 8, 31, 9); got != n || went == 0 {
			t.Errorf("the number %d, the pin %d; want %d, and one that went", got, went, n)
		}
	}
}

func TestAnyPinMayGo(t *testing.T) {
	for _, pin := range []int{0, 1, -1, math.MaxInt, math.MinInt} {
		s := New(3)
		for n := uint32(1); n <= api.MaxCursors; n++ {
			wantOpen(t, s, 7, pin, 0, n)
			wantTake(t, s, 7, n, 1, 0, first(pin))
		}
		wantPush(t, s, 7, 5, 0, 9, pin)
		wantClose(t, s, 7, 2, pin)
		wantLeave(t, s, 7, pin, pin, pin, pin, pin, pin, 5)
	}
}

func TestOpenTakesWhatItIsGiven(t *testing.T) {
	long := slices.Repeat([]int32{math.MinInt32, math.MaxInt32}, 500)
	odd := []string{"", "b", "a", "a", "\x00\xff", "longer than any tag may be"}
	for _, vec := range [][]int32{nil, {}, {0}, {1 << 20}, {-1<<20 - 1}, long} {
		for _, f := range []api.Filter{{}, {All: []string{}}, {All: odd}, {Any: odd}, {None: odd}, someFilter()} {
			for _, owner := range []uint64{0, 7, math.MaxUint64} {
				s := New(3)
				if n, went := s.Open(owner, 5, vec, f, 4); n != 1 || went != 0 {
					t.Fatal(n, went)
				}
				want := api.Ask{Pin: 5, Vec: vec, Filter: f}
				wantTake(t, s, owner, 1, 1, 4, want)
				s.Told(1, 1, hits(6))
				want.Has, want.Last = true, hit(6)
				wantTake(t, s, owner, 1, 2, 4, want)
			}
		}
	}
}

// P14.3

func TestClose(t *testing.T) {
	s := New(3)
	wantOpen(t, s, 7, 21, 0, 1)
	wantOpen(t, s, 8, 22, 0, 2)
	wantOpen(t, s, 7, 23, 0, 3)
	s.Told(3, 1, hits(1, 2))
	wantNotOwn(t, s, 8, 1)
	wantNotOwn(t, s, 7, 2)
	wantNotOwn(t, s, 7, 4)
	wantNotOwn(t, s, 7, 0)
	wantClose(t, s, 7, 1, 21)
	wantPages(t, s, 8, 2, 0, 0, api.Ask{}, first(22))
	wantPages(t, s, 7, 3, 1, 0, first(23), behind(23, 2))
	wantClose(t, s, 8, 2, 22)
	wantClose(t, s, 7, 3, 23)
	wantLen(t, s, 0)
	wantLeave(t, s, 7)
	wantTick(t, s, 100)
}

func TestOwnersAreToldApart(t *testing.T) {
	owners := []uint64{0, 1, 1 << 8, 1 << 16, 1 << 32, 1<<32 + 1, 1 << 63, math.MaxUint64}
	s := New(3)
	for i, owner := range owners {
		wantOpen(t, s, owner, 10+i, 0, uint32(i+1))
	}
	for i, owner := range owners {
		for _, other := range owners {
			if other != owner {
				wantNotOwn(t, s, other, uint32(i+1))
			}
		}
		wantTake(t, s, owner, uint32(i+1), 1, 0, first(10+i))
	}
	for i, owner := range owners {
		wantLeave(t, s, owner, 10+i)
	}
}

func TestLeave(t *testing.T) {
	for _, c := range []struct {
		owners []uint64 // of cursors with the pins 90, 89 and so on
		leaves uint64
		want   []int
	}{
		{nil, 7, nil},
		{[]uint64{7}, 7, []int{90}},
		{[]uint64{7}, 8, nil},
		{[]uint64{8, 7, 9}, 7, []int{89}},
		{[]uint64{7, 8, 7}, 7, []int{90, 88}},
		{[]uint64{7, 7, 7, 7, 7, 7, 7, 7}, 7, []int{90, 89, 88, 87, 86, 85, 84, 83}},
		{[]uint64{7, 8, 7, 7, 8, 7, 8, 7}, 7, []int{90, 88, 87, 85, 83}},
		{[]uint64{7, 8, 7, 7, 8, 7, 8, 7}, 8, []int{89, 86, 84}},
		{[]uint64{8, 9, 8, 9}, 7, nil},
		{[]uint64{0, 1, 0, math.MaxUint64}, 0, []int{90, 88}},
		{[]uint64{0, 1, 0, math.MaxUint64}, math.MaxUint64, []int{87}},
		{[]uint64{1 << 32, 1, 1<<32 + 1, 1}, 1, []int{89, 87}},
	} {
		s := New(3)
		for i, owner := range c.owners {
			wantOpen(t, s, owner, 90-i, uint32(i*7%5), uint32(i+1))
		}
		wantLeave(t, s, c.leaves, c.want...)
		wantLeave(t, s, c.leaves)
		for i, owner := range c.owners {
			if owner == c.leaves {
				wantNone(t, s, uint32(i+1), owner)
			} else {
				wantTake(t, s, owner, uint32(i+1), 1, 0, first(90-i))
			}
		}
	}
}

func TestOthersStayBehindLeave(t *testing.T) {
	s := New(3)
	for i, owner := range []uint64{7, 8, 7, 9} {
		wantOpen(t, s, owner, 11+i, 0, uint32(i+1))
		s.Told(uint32(i+1), 1, hits(50+i))
	}
	s.Told(4, 2, hits(60))
	wantLeave(t, s, 7, 11, 13)
	wantPages(t, s, 8, 2, 1, 0, first(12), behind(12, 51))
	wantPages(t, s, 9, 4, 2, 0, behind(14, 53), behind(14, 60))
	wantOpen(t, s, 7, 15, 0, 5)
	wantPages(t, s, 7, 5, 0, 0, api.Ask{}, first(15))
	wantTick(t, s, 4, 12, 14, 15)
}

func TestTick(t *testing.T) {
	const most = math.MaxUint32
	for _, c := range []struct {
		idle, used, now uint32
		goes            bool
	}{
		{3, 10, 10, false}, {3, 10, 12, false}, {3, 10, 13, false}, {3, 10, 14, true}, {3, 10, 15, true}, {3, 10, most, true},
		{3, 10, 9, false}, {3, 10, 6, false}, {3, 10, 0, false}, {3, most, 0, false}, {3, most, most - 4, false}, {3, 1 << 31, 1, false},
		{0, 10, 9, false}, {0, 10, 10, false}, {0, 10, 11, true}, {0, 0, 0, false}, {0, 0, 1, true}, {0, most, most, false}, {0, most - 1, most, true},
		{1, 0, 1, false}, {1, 0, 2, true}, {1, most, 0, false}, {1, most, 2, false}, {1, most, most, false},
		{most, 0, most, false}, {most, 1, most, false}, {most, 1, 0, false}, {most - 1, 0, most, true}, {most - 1, 1, most, false},
		{1 << 31, 0, 1 << 31, false}, {1 << 31, 0, 1<<31 + 1, true}, {1<<31 - 1, 1, 1 << 31, false}, {255, 0, 256, true}, {256, 0, 256, false},
	} {
		s := New(c.idle)
		wantOpen(t, s, 7, 5, c.used, 1)
		if c.goes {
			wantTick(t, s, c.now, 5)
			wantNone(t, s, 1)
		} else {
			wantTick(t, s, c.now)
			wantTake(t, s, 7, 1, 1, c.used, first(5))
		}
	}
}

func TestTickTellsPinsByNumbers(t *testing.T) {
	s := New(3)
	for i, tick := range []uint32{6, 1, 9, 0, 5, 2, 9, 1} {
		wantOpen(t, s, uint64(i%3), 90-i, tick, uint32(i+1))
	}
	wantTick(t, s, 3)
	wantTick(t, s, 5, 89, 87, 83)
	wantTick(t, s, 5)
	wantTick(t, s, 2)
	wantTick(t, s, 10, 90, 86, 85)
	wantTick(t, s, 12)
	wantPages(t, s, 2, 3, 0, 9, api.Ask{}, first(88))
	wantPages(t, s, 0, 7, 0, 9, api.Ask{}, first(84))
	wantTick(t, s, math.MaxUint32, 88, 84)
}

func TestTickBehindTakeAndTold(t *testing.T) {
	s := New(3)
	for n := uint32(1); n <= 4; n++ {
		wantOpen(t, s, 7, int(10+n), 5, n)
	}
	wantTake(t, s, 7, 1, 1, 7, first(11))
	wantTake(t, s, 7, 2, 1, 4, first(12)) // back
	s.Told(3, 1, hits(1))
	wantNoTake(t, s, 7, 3, 3, 9, api.ErrArg)
	wantNoTake(t, s, 8, 4, 1, 9, api.ErrCursor)
	wantTick(t, s, 7)
	wantTick(t, s, 8, 12)
	wantTick(t, s, 9, 13, 14)
	wantTake(t, s, 7, 1, 1, 10, first(11))
	wantTick(t, s, 13)
	wantTick(t, s, 14, 11)
}

func TestTickIsNoUse(t *testing.T) {
	s := New(3)
	wantOpen(t, s, 7, 5, 0, 1)
	for now := range uint32(4) {
		wantTick(t, s, now)
	}
	wantTick(t, s, 4, 5)
}

func TestLen(t *testing.T) {
	s := New(3)
	for n := uint32(1); n <= api.MaxCursors; n++ {
		wantLen(t, s, int(n-1))
		wantOpen(t, s, uint64(n%2), int(10+n), n, n)
	}
	wantPush(t, s, 2, 30, 9, 9, 11)
	wantTake(t, s, 2, 9, 1, 9, first(30))
	s.Told(9, 1, hits(1))
	wantLen(t, s, 8)
	wantClose(t, s, 2, 9, 30)
	wantLen(t, s, 7)
	wantTick(t, s, 7, 12, 13)
	wantLen(t, s, 5)
	wantLeave(t, s, 0, 14, 16, 18)
	wantLen(t, s, 2)
	wantLeave(t, s, 1, 15, 17)
	wantLen(t, s, 0)
}
