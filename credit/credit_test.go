package credit

import (
	"math"
	"testing"

	"lodestar/api"
)

// P17.1

func TestSizesAreBroughtToTheirRange(t *testing.T) {
	for _, c := range []struct {
		size int
		want uint32
	}{
		{1, 1}, {2, 2}, {3, 3}, {4, 4}, {5, 5}, {6, 6}, {7, 7}, {api.MaxCredit, 8},
		{0, 1}, {-1, 1}, {-2, 1}, {-8, 1}, {-255, 1}, {-1 << 8, 1}, {3 - 1<<8, 1}, {-1 << 31, 1}, {3 - 1<<31, 1}, {math.MinInt + 3, 1}, {math.MinInt, 1},
		{9, 8}, {10, 8}, {99, 8}, {1 << 8, 8}, {3 + 1<<8, 8}, {3 + 1<<16, 8}, {api.MaxCount, 8}, {math.MaxInt32, 8}, {math.MaxInt - 3, 8}, {math.MaxInt, 8},
	} {
		w := New(c.size)
		wantLimit(t, w, c.want)
		wantHad(t, w, told{1, true, c.want + 1}, told{100, true, c.want + 100}, told{99, false, c.want + 100})
	}
}

func TestSizesAboveAWordOf32Bits(t *testing.T) {
	low := uint64(3)
	for _, high := range []uint64{1 << 32, 1 << 40, 1 << 62} {
		wide := int64(high + low)
		if size := int(wide); int64(size) == wide {
			wantLimit(t, New(size), api.MaxCredit)
			wantLimit(t, New(-size), 1)
		}
	}
}

func TestMay(t *testing.T) {
	w := New(3)
	for _, c := range []struct {
		req  uint32
		want bool
	}{{0, false}, {1, true}, {2, true}, {3, true}, {4, false}, {5, false}, {1 << 8, false}, {1<<8 + 1, false}, {1<<16 + 1, false},
		{api.MaxCount, false}, {1 << 31, false}, {1<<31 + 1, false}, {most - 1, false}, {most, false}} {
		if w.May(c.req) != c.want {
			t.Errorf("May(%d): want %t", c.req, c.want)
		}
	}
	wantLimit(t, w, 3)
}

func TestMayOfWhatWasHadAlready(t *testing.T) {
	w := New(3)
	w.Had(100)
	for req := range uint32(110) {
		if w.May(req) != (req >= 1 && req <= 103) {
			t.Errorf("May(%d) = %t, behind Had(100)", req, w.May(req))
		}
	}
}

// P17.2: Had

func TestHadOfNothing(t *testing.T) {
	for size := 1; size <= api.MaxCredit; size++ {
		w := New(size)
		wantHad(t, w, told{0, false, uint32(size)})
		w.Had(7)
		wantHad(t, w, told{0, false, uint32(size) + 7})
	}
}

func TestHadOfOneAfterTheOther(t *testing.T) {
	for size := uint32(1); size <= api.MaxCredit; size++ {
		w := New(int(size))
		for n := uint32(1); n <= 300; n++ {
			wantHad(t, w, told{n - 1, false, n - 1 + size}, told{n, true, n + size}, told{n / 2, false, n + size}, told{0, false, n + size})
		}
	}
}

func TestHadOfManyAtOnce(t *testing.T) {
	wantHad(t, New(3), told{2, true, 5}, told{2, false, 5}, told{1, false, 5}, told{0, false, 5}, told{3, true, 6}, told{50, true, 53},
		told{49, false, 53}, told{50, false, 53}, told{51, true, 54}, told{1 << 16, true, 1<<16 + 3}, told{53, false, 1<<16 + 3},
		told{1<<30 - 100, true, 1<<30 - 97}, told{1, false, 1<<30 - 97})
}

func TestHadAboveTheLimit(t *testing.T) {
	// Of what may be had nothing is said: it is the one who says it who must know.
	wantHad(t, New(1), told{1, true, 2}, told{3, true, 4}, told{9, true, 10}, told{4, false, 10}, told{9, false, 10}, told{10, true, 11})
}

func TestHadNearTheGreatestCount(t *testing.T) {
	for size := uint32(1); size <= api.MaxCredit; size++ {
		w := New(int(size))
		for n := uint32(api.MaxCount - 20); n <= api.MaxCount-size; n++ {
			wantHad(t, w, told{n, true, n + size})
		}
		wantLimit(t, w, api.MaxCount)
		for n := uint32(api.MaxCount - size); n <= api.MaxCount+20; n++ {
			wantHad(t, w, told{n, false, api.MaxCount})
		}
		for _, n := range numbers(1) {
			wantHad(t, w, told{n, false, api.MaxCount})
		}
	}
}

func TestHadAboveTheGreatestCount(t *testing.T) {
	for size := uint32(1); size <= api.MaxCredit; size++ {
		for _, n := range []uint32{api.MaxCount - size, api.MaxCount - size + 1, api.MaxCount - 1, api.MaxCount, api.MaxCount + 1, api.MaxCount + 8,
			1<<31 - 1, 1 << 31, 1<<31 + 1, 3 << 30, most - size - 1, most - size, most - size + 1, most - 8, most - 7, most - 1, most} {
			w := New(int(size))
			wantHad(t, w, told{n, true, api.MaxCount}, told{most, false, api.MaxCount}, told{0, false, api.MaxCount}, told{5, false, api.MaxCount})
			wantRaise(t, w, told{most, false, api.MaxCount}, told{api.MaxCount, false, api.MaxCount}, told{1, false, api.MaxCount})
		}
	}
}

func TestHadThatCannotBringAllOfTheSize(t *testing.T) {
	w := New(8)
	wantHad(t, w, told{api.MaxCount - 9, true, api.MaxCount - 1}, told{api.MaxCount - 5, true, api.MaxCount}, told{api.MaxCount - 4, false, api.MaxCount})
}

// P17.2: Raise

func TestRaise(t *testing.T) {
	for size := uint32(1); size <= api.MaxCredit; size++ {
		w := New(int(size))
		wantRaise(t, w, told{0, false, size}, told{1, false, size}, told{size - 1, false, size}, told{size, false, size},
			told{size + 1, true, size + 1}, told{size, false, size + 1}, told{size + 1, false, size + 1}, told{0, false, size + 1},
			told{50, true, 50}, told{49, false, 50}, told{51, true, 51}, told{1<<16 + 1, true, 1<<16 + 1}, told{51, false, 1<<16 + 1},
			told{api.MaxCount - 1, true, api.MaxCount - 1}, told{api.MaxCount, true, api.MaxCount}, told{api.MaxCount - 1, false, api.MaxCount},
			told{api.MaxCount + 1, false, api.MaxCount}, told{1 << 31, false, api.MaxCount}, told{most, false, api.MaxCount}, told{0, false, api.MaxCount})
	}
}

func TestRaiseAboveTheGreatestCount(t *testing.T) {
	for _, limit := range []uint32{api.MaxCount, api.MaxCount + 1, api.MaxCount + 8, 1<<31 - 1, 1 << 31, 1<<31 + 5, 3 << 30, most - 1, most} {
		w := New(3)
		wantRaise(t, w, told{limit, true, api.MaxCount}, told{limit, false, api.MaxCount}, told{0, false, api.MaxCount})
		wantHad(t, w, told{2, false, api.MaxCount}, told{api.MaxCount, false, api.MaxCount}, told{most, false, api.MaxCount})
	}
}

func TestRaiseSaysNothingOfTheSize(t *testing.T) {
	w := New(2)
	wantRaise(t, w, told{50, true, 50})
	wantHad(t, w, told{1, false, 50}, told{47, false, 50}, told{48, false, 50}, told{49, true, 51}, told{60, true, 62}, told{61, true, 63})
}

// P17.2: Raise and Had in turns

func TestRaiseAndHadInTurns(t *testing.T) {
	w := New(3)
	wantHad(t, w, told{2, true, 5})
	wantRaise(t, w, told{5, false, 5}, told{9, true, 9})
	wantHad(t, w, told{3, false, 9}, told{6, false, 9}, told{7, true, 10}, told{5, false, 10})
	wantRaise(t, w, told{9, false, 10}, told{10, false, 10}, told{11, true, 11})
	wantHad(t, w, told{7, false, 11}, told{8, false, 11}, told{9, true, 12})
	wantRaise(t, w, told{12, false, 12}, told{3, false, 12}, told{api.MaxCount - 1, true, api.MaxCount - 1})
	wantHad(t, w, told{9, false, api.MaxCount - 1}, told{api.MaxCount - 4, false, api.MaxCount - 1}, told{api.MaxCount - 3, true, api.MaxCount})
	wantRaise(t, w, told{most, false, api.MaxCount})
}

func TestTheGreaterOneOfBothCounts(t *testing.T) {
	for size := uint32(1); size <= api.MaxCredit; size++ {
		for had := range uint32(25) {
			for limit := range uint32(35) {
				a, b := New(int(size)), New(int(size))
				wantRaise(t, a, told{limit, limit > size, max(limit, size)})
				wantHad(t, a, told{had, had+size > max(limit, size), max(limit, had+size)})
				wantHad(t, b, told{had, had > 0, had + size})
				wantRaise(t, b, told{limit, limit > had+size, max(limit, had+size)})
			}
		}
	}
}

// P17.2: Free

func TestFree(t *testing.T) {
	w := New(5)
	for _, c := range []struct{ next, want uint32 }{{0, 0}, {1, 5}, {2, 4}, {3, 3}, {4, 2}, {5, 1}, {6, 0}, {7, 0}, {13, 0}, {1<<8 + 1, 0}, {1<<16 + 1, 0},
		{api.MaxCount, 0}, {1 << 31, 0}, {1<<31 + 1, 0}, {most - 1, 0}, {most, 0}} {
		if n := w.Free(c.next); n != c.want {
			t.Errorf("Free(%d) = %d; want %d", c.next, n, c.want)
		}
	}
	wantLimit(t, w, 5)
}

func TestFreeOfTheGreatestLimit(t *testing.T) {
	w := New(1)
	w.Raise(api.MaxCount)
	for _, c := range []struct{ next, want uint32 }{{0, 0}, {1, api.MaxCount}, {2, api.MaxCount - 1}, {api.MaxCount - 1, 2}, {api.MaxCount, 1},
		{api.MaxCount + 1, 0}, {api.MaxCount + 2, 0}, {1 << 31, 0}, {most, 0}} {
		if n := w.Free(c.next); n != c.want {
			t.Errorf("Free(%d) = %d; want %d", c.next, n, c.want)
		}
	}
}

func TestAsManyAreFreeAsMayCome(t *testing.T) {
	w := New(4)
	for had := range uint32(40) {
		w.Had(had)
		for next := uint32(1); next <= 60; next++ {
			var may uint32
			for req := next; req < 100; req++ {
				if w.May(req) {
					may++
				}
			}
			if w.Free(next) != may {
				t.Errorf("Had(%d), Free(%d) = %d; want %d", had, next, w.Free(next), may)
			}
		}
	}
}

func TestExamples(t *testing.T) {
	w := New(3)
	if w.Limit() != 3 {
		t.Error(w.Limit())
	}
	if w.May(4) {
		t.Error("4 may come")
	}
	if !w.Had(2) || w.Limit() != 5 {
		t.Error(w.Limit())
	}
	if w.Free(4) != 2 {
		t.Error(w.Free(4))
	}
}
