package dedup

import (
	"math"
	"testing"

	"lodestar/api"
)

// P16.1

func TestATableOfWhichNothingWasDone(t *testing.T) {
	s := New()
	wantTable(t, s, 0)
	wantNoKeep(t, s, api.ErrArg, 0, 2, 3, 17, math.MaxUint32)
	wantTable(t, s, 0)
	wantAck(t, s, 0, api.OK)
	for _, n := range []uint32{1, 2, 17, api.MaxCount, math.MaxUint32} {
		wantAck(t, s, n, api.ErrArg)
	}
	wantTable(t, s, 0)
	wantKeep(t, s, 1)
	wantTable(t, s, 0, full(1))
}

func TestExamples(t *testing.T) {
	s := New()
	x := api.Message{Kind: api.Answer, Req: 1, Version: 7}
	wantNoAnswer(t, s, api.Fresh, 1)
	if e := s.Keep(1, x); e != api.OK {
		t.Error(e)
	}
	wantAsk(t, s, 1, api.Again, x)
	wantNoAnswer(t, s, api.Gap, 3)
	wantAck(t, s, 1, api.OK)
	wantNoAnswer(t, s, api.Past, 1)
	wantAck(t, s, 2, api.ErrArg)
}

func TestAskOfEveryNumberOfEveryTable(t *testing.T) {
	for done := range uint32(40) {
		for acked := done - min(done, api.MaxKept); acked <= done; acked++ {
			s := made(t, done, acked)
			for req := range done + 20 {
				switch {
				case req <= acked:
					wantNoAnswer(t, s, api.Past, req)
				case req <= done:
					wantAsk(t, s, req, api.Again, full(req))
				case req == done+1:
					wantNoAnswer(t, s, api.Fresh, req)
				default:
					wantNoAnswer(t, s, api.Gap, req)
				}
			}
			wantTable(t, s, acked, fulls(acked, done)...)
		}
	}
}

func TestAskChangesNothing(t *testing.T) {
	s := made(t, 9, 4)
	for range 100 {
		for _, req := range []uint32{0, 3, 4, 5, 9, 10, 11, math.MaxUint32} {
			s.Ask(req)
		}
	}
	wantTable(t, s, 4, fulls(4, 9)...)
	wantKeep(t, s, 10)
}

// P16.2: Keep

func TestKeepOfOneAfterTheOther(t *testing.T) {
	s := New()
	for n := uint32(1); n <= api.MaxKept; n++ {
		wantNoAnswer(t, s, api.Fresh, n)
		wantKeep(t, s, n)
		wantTable(t, s, 0, fulls(0, n)...)
	}
}

func TestKeepOfAnotherNumberThanTheNext(t *testing.T) {
	for _, c := range []struct{ done, acked uint32 }{{0, 0}, {1, 0}, {1, 1}, {5, 2}, {16, 0}, {17, 1}, {20, 20}, {300, 290}} {
		s := made(t, c.done, c.acked)
		for _, req := range []uint32{0, 1, c.acked, c.acked + 1, c.done - 1, c.done, c.done + 2, c.done + 3,
			c.done + 1 + 1<<8, c.done + 1 + 1<<16, c.done + 1 + 1<<31, api.MaxCount, math.MaxUint32 - 1, math.MaxUint32} {
			if req != c.done+1 {
				wantNoKeep(t, s, api.ErrArg, req)
			}
		}
		wantTable(t, s, c.acked, fulls(c.acked, c.done)...)
	}
}

func TestAnswersThatAreKeptAreNotKeptAnew(t *testing.T) {
	s := made(t, 3, 1)
	for _, req := range []uint32{1, 2, 3} {
		if e := s.Keep(req, api.Message{Kind: api.Answer, Req: 99}); e != api.ErrArg {
			t.Error(req, e)
		}
	}
	wantTable(t, s, 1, full(2), full(3))
}

func TestAsManyAnswersAsMayBe(t *testing.T) {
	for _, begin := range []uint32{0, 1, 5, 200} {
		for few := uint32(1); few <= api.MaxKept; few++ {
			s := made(t, begin+api.MaxKept, begin)
			wantNumbers(t, s, begin+api.MaxKept, begin, api.MaxKept)
			wantNoKeep(t, s, api.ErrFull, begin+api.MaxKept+1)
			wantTable(t, s, begin, fulls(begin, begin+api.MaxKept)...)
			wantAck(t, s, begin+few, api.OK)
			for n := begin + api.MaxKept + 1; n <= begin+few+api.MaxKept; n++ {
				wantKeep(t, s, n)
			}
			wantNoKeep(t, s, api.ErrFull, begin+few+api.MaxKept+1)
			wantTable(t, s, begin+few, fulls(begin+few, begin+few+api.MaxKept)...)
		}
	}
}

func TestAcksThatChangeNothingMakeNoRoom(t *testing.T) {
	s := made(t, 20, 4)
	for _, n := range []uint32{0, 1, 3, 4} {
		wantAck(t, s, n, api.OK)
		wantNoKeep(t, s, api.ErrFull, 21)
	}
	for _, n := range []uint32{21, 22, math.MaxUint32} {
		wantAck(t, s, n, api.ErrArg)
		wantNoKeep(t, s, api.ErrFull, 21)
	}
	wantTable(t, s, 4, fulls(4, 20)...)
}

func TestTheGreatestCount(t *testing.T) {
	s := counted(api.MaxCount - 3)
	wantTable(t, s, api.MaxCount-3)
	for n := uint32(api.MaxCount - 2); n <= api.MaxCount; n++ {
		wantKeep(t, s, n)
	}
	wantTable(t, s, api.MaxCount-3, fulls(api.MaxCount-3, api.MaxCount)...)
	wantNoKeep(t, s, api.ErrCount, api.MaxCount+1)
	wantTable(t, s, api.MaxCount-3, fulls(api.MaxCount-3, api.MaxCount)...)
	wantAck(t, s, api.MaxCount+1, api.ErrArg)
	wantAck(t, s, api.MaxCount, api.OK)
	wantNoKeep(t, s, api.ErrCount, api.MaxCount+1)
	wantTable(t, s, api.MaxCount)
}

func TestWhichErrorComesFirst(t *testing.T) {
	s := made(t, 16, 0)
	wantNoKeep(t, s, api.ErrArg, 0, 1, 15, 16, 18, 19, math.MaxUint32)
	wantNoKeep(t, s, api.ErrFull, 17)
	wantTable(t, s, 0, fulls(0, 16)...)

	s = counted(api.MaxCount)
	wantNoKeep(t, s, api.ErrArg, 0, 1, api.MaxCount-1, api.MaxCount, api.MaxCount+2, math.MaxUint32)
	wantNoKeep(t, s, api.ErrCount, api.MaxCount+1)
	wantTable(t, s, api.MaxCount)

	s = counted(api.MaxCount - api.MaxKept - 1)
	for n := s.Done() + 1; n < api.MaxCount; n++ {
		wantKeep(t, s, n)
	}
	wantNoKeep(t, s, api.ErrFull, api.MaxCount)
	wantAck(t, s, api.MaxCount-api.MaxKept, api.OK)
	wantKeep(t, s, api.MaxCount)
	wantNumbers(t, s, api.MaxCount, api.MaxCount-api.MaxKept, api.MaxKept)
	wantNoKeep(t, s, api.ErrArg, 0, 1, api.MaxCount-1, api.MaxCount, api.MaxCount+2, math.MaxUint32)
	wantNoKeep(t, s, api.ErrCount, api.MaxCount+1)
	wantTable(t, s, api.MaxCount-api.MaxKept, fulls(api.MaxCount-api.MaxKept, api.MaxCount)...)
}

// P16.2: Ack

func TestAck(t *testing.T) {
	const most = math.MaxUint32
	for _, c := range []struct {
		done, acked, n uint32
		want           api.Errno
		now            uint32 // what is acknowledged then
	}{
		{0, 0, 0, api.OK, 0}, {0, 0, 1, api.ErrArg, 0}, {0, 0, most, api.ErrArg, 0},
		{1, 0, 0, api.OK, 0}, {1, 0, 1, api.OK, 1}, {1, 0, 2, api.ErrArg, 0},
		{1, 1, 0, api.OK, 1}, {1, 1, 1, api.OK, 1}, {1, 1, 2, api.ErrArg, 1},
		{9, 0, 0, api.OK, 0}, {9, 0, 1, api.OK, 1}, {9, 0, 5, api.OK, 5}, {9, 0, 8, api.OK, 8}, {9, 0, 9, api.OK, 9},
		{9, 4, 0, api.OK, 4}, {9, 4, 1, api.OK, 4}, {9, 4, 3, api.OK, 4}, {9, 4, 4, api.OK, 4}, {9, 4, 5, api.OK, 5}, {9, 4, 9, api.OK, 9},
		{9, 4, 10, api.ErrArg, 4}, {9, 4, 11, api.ErrArg, 4}, {9, 4, 9 + 1<<8, api.ErrArg, 4}, {9, 4, 9 + 1<<16, api.ErrArg, 4},
		{9, 4, 1 << 31, api.ErrArg, 4}, {9, 4, most - 1, api.ErrArg, 4}, {9, 4, most, api.ErrArg, 4},
		{16, 0, 16, api.OK, 16}, {16, 0, 17, api.ErrArg, 0}, {16, 0, 15, api.OK, 15}, {300, 284, 300, api.OK, 300}, {300, 284, 28, api.OK, 284},
	} {
		s := made(t, c.done, c.acked)
		for range 2 {
			wantAck(t, s, c.n, c.want)
			wantTable(t, s, c.now, fulls(c.now, c.done)...)
		}
	}
}

func TestAckOfOneAfterTheOther(t *testing.T) {
	s := made(t, 20, 4)
	for n := uint32(5); n <= 20; n++ {
		wantAck(t, s, n-1, api.OK)
		wantAck(t, s, n, api.OK)
		wantTable(t, s, n, fulls(n, 20)...)
		wantAck(t, s, n/2, api.OK)
		wantAck(t, s, 21, api.ErrArg)
		wantTable(t, s, n, fulls(n, 20)...)
	}
	wantKeep(t, s, 21)
	wantTable(t, s, 20, full(21))
}

func TestAckOfAllEndsWhateverTheNumbers(t *testing.T) {
	s := counted(api.MaxCount - 1)
	wantKeep(t, s, api.MaxCount)
	for _, n := range []uint32{0, 1, 1 << 29, api.MaxCount - 1} {
		wantAck(t, s, n, api.OK)
		wantTable(t, s, api.MaxCount-1, full(api.MaxCount))
	}
	wantAck(t, s, math.MaxUint32, api.ErrArg)
	wantAck(t, s, api.MaxCount, api.OK)
	wantTable(t, s, api.MaxCount)
}

// P16.3

func TestDoneAckedLen(t *testing.T) {
	s := New()
	wantNumbers(t, s, 0, 0, 0)
	wantKeep(t, s, 1)
	wantNumbers(t, s, 1, 0, 1)
	wantKeep(t, s, 2)
	wantKeep(t, s, 3)
	wantNumbers(t, s, 3, 0, 3)
	wantNoKeep(t, s, api.ErrArg, 3, 5)
	wantNumbers(t, s, 3, 0, 3)
	wantAck(t, s, 2, api.OK)
	wantNumbers(t, s, 3, 2, 1)
	wantAck(t, s, 1, api.OK)
	wantAck(t, s, 4, api.ErrArg)
	wantNumbers(t, s, 3, 2, 1)
	wantKeep(t, s, 4)
	wantNumbers(t, s, 4, 2, 2)
	wantAck(t, s, 4, api.OK)
	wantNumbers(t, s, 4, 4, 0)
	for n := uint32(5); n <= 20; n++ {
		wantKeep(t, s, n)
		wantNumbers(t, s, n, 4, int(n-4))
	}
	wantNoKeep(t, s, api.ErrFull, 21)
	wantNumbers(t, s, 20, 4, 16)
	wantAck(t, s, 20, api.OK)
	wantNumbers(t, s, 20, 20, 0)
}
