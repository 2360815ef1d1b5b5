package credit

import (
	"fmt"
	"slices"
	"strings"
	"testing"

	"lodestar/api"
)

// P17.3

func TestTheLimitNeverGoesDown(t *testing.T) {
	d := dice(3)
	for range 1000 {
		w := New(d.upTo(14) - 3)
		was := w.Limit()
		for range 100 {
			n := d.near(was)
			what, another := "Had", false
			switch d.upTo(4) {
			case 0, 1:
				another = w.Had(n)
			case 2:
				what, another = "Raise", w.Raise(n)
			default:
				what = "May, Free"
				w.May(n)
				w.Free(n)
			}
			now := w.Limit()
			if now < was || now > api.MaxCount || another != (now > was) {
				t.Fatalf("%s, %d: the limit was %d, is %d, and is another one: %t", what, n, was, now, another)
			}
			was = now
		}
	}
}

func TestWhatMightComeMayComeForEver(t *testing.T) {
	d := dice(8)
	w := New(4)
	for range 3000 {
		limit := w.Limit()
		w.Had(d.near(limit))
		w.Raise(d.near(limit) % 100_000)
		for _, req := range []uint32{1, 2, limit / 2, limit - 1, limit} {
			if !w.May(req) {
				t.Fatalf("%d might come, up to %d; and may not, up to %d", req, limit, w.Limit())
			}
		}
	}
}

// sides are two windows of one size, of which the other one is told what stands in way.
type sides struct {
	t          *testing.T
	one, other *Window
	way        []uint32 // limits of the first that may come to the other one yet
}

func newSides(t *testing.T, size int) *sides {
	w := New(size)
	return &sides{t: t, one: w, other: New(size), way: []uint32{w.Limit()}}
}

// had has the first one told that all up to n was had; its limit is on its way then.
func (s *sides) had(n uint32) {
	s.t.Helper()
	if s.one.Had(n) {
		s.way = append(s.way, s.one.Limit())
	}
	s.wantBelow()
}

// tell tells the other one the limit at the place i of way.
func (s *sides) tell(i int) {
	s.t.Helper()
	was := s.other.Limit()
	if another := s.other.Raise(s.way[i]); another != (s.way[i] > was) || s.other.Limit() != max(was, s.way[i]) {
		s.t.Fatalf("limit %d: Raise(%d) = %t, limit %d", was, s.way[i], another, s.other.Limit())
	}
	s.wantBelow()
}

func (s *sides) wantBelow() {
	s.t.Helper()
	if s.other.Limit() > s.one.Limit() {
		s.t.Fatalf("the other one's limit is %d, the first one's %d", s.other.Limit(), s.one.Limit())
	}
}

// wantSame tells the other one the last limit, and wants both to be alike.
func (s *sides) wantSame() {
	s.t.Helper()
	s.tell(len(s.way) - 1)
	limit := s.one.Limit()
	if s.other.Limit() != limit {
		s.t.Fatalf("the other one's limit is %d, the first one's %d", s.other.Limit(), limit)
	}
	wantLimit(s.t, s.one, limit)
	wantLimit(s.t, s.other, limit)
}

func TestTheOtherOneIsToldEachLimitAtOnce(t *testing.T) {
	for size := -1; size <= api.MaxCredit+1; size++ {
		s := newSides(t, size)
		s.wantSame()
		for _, n := range []uint32{0, 1, 2, 2, 5, 4, 5, 6, 300, 7, 1 << 20, api.MaxCount - 9, api.MaxCount - 8, api.MaxCount - 1, api.MaxCount, most} {
			s.had(n)
			s.wantSame()
		}
	}
}

func TestTheOtherOneIsToldLateTwiceOrNotAtAll(t *testing.T) {
	d := dice(9)
	for script := range 2000 {
		s := newSides(t, 1+d.upTo(8))
		if script%4 == 0 {
			s.had(api.MaxCount - 80)
		}
		for range 80 {
			switch d.upTo(4) {
			case 0: // any one, a late one too, and perhaps again
				s.tell(d.upTo(len(s.way)))
			case 1: // the newest one
				s.tell(len(s.way) - 1)
			default: // those that aren't told between are lost
				s.had(d.near(s.one.Limit()))
			}
		}
		s.wantSame()
	}
}

func TestTheOtherOneIsToldNothingTillTheLast(t *testing.T) {
	s := newSides(t, 3)
	for n := uint32(1); n <= 50; n++ {
		s.had(n)
		wantLimit(t, s.other, 3)
	}
	s.wantSame()
}

func TestTheOtherOneIsToldAllBackwards(t *testing.T) {
	s := newSides(t, 8)
	for n := uint32(1); n <= 50; n++ {
		s.had(n)
	}
	for i := len(s.way) - 1; i >= 0; i-- {
		s.tell(i)
		if s.other.Limit() != 58 {
			t.Fatal(s.other.Limit())
		}
	}
}

func TestNoMoreAreUnderWayThanTheSize(t *testing.T) {
	// A side that sends what may come, another one that has answers to it: at most so many are between.
	for size := uint32(1); size <= api.MaxCredit; size++ {
		d := dice(size)
		s := newSides(t, int(size))
		var sent, had uint32
		for range 2000 {
			if s.other.May(sent + 1) {
				sent++
			}
			if d.upTo(2) == 0 && had < sent {
				had++
				s.had(had)
			}
			if d.upTo(3) == 0 {
				s.tell(d.upTo(len(s.way)))
				s.tell(len(s.way) - 1)
			}
			if sent-had > size || !s.one.May(sent) {
				t.Fatalf("size %d: %d were sent, %d had", size, sent, had)
			}
		}
		if had < 400 {
			t.Fatalf("size %d: %d: too few for a test", size, had)
		}
	}
}

// DOC.md's rules

func TestWindowsAreApart(t *testing.T) {
	a, b, c := New(3), New(3), New(5)
	a.Had(7)
	wantLimit(t, b, 3)
	wantLimit(t, c, 5)
	b.Raise(8)
	wantLimit(t, a, 10)
	wantLimit(t, c, 5)
	c.Had(most)
	wantLimit(t, New(3), 3)
	wantHad(t, a, told{8, true, 11})
	wantHad(t, b, told{5, false, 8}, told{6, true, 9})
	wantLimit(t, c, api.MaxCount)
}

func TestTheSameDoneTwiceAnswersTheSame(t *testing.T) {
	script := func() string {
		d := dice(21)
		w := New(4)
		var l []string
		for range 3000 {
			n := d.near(w.Limit()) % 1_000_000
			l = append(l, fmt.Sprint(n, w.May(n), w.Free(n), w.Had(n), w.Limit(), w.Raise(n+5), w.Limit()))
		}
		return strings.Join(l, "\n")
	}
	if script() != script() {
		t.Error("two windows to which the same was done differ")
	}
}

func TestAllAnswersWhateverTheNumber(t *testing.T) {
	l := numbers(5)
	slices.Sort(l)
	l = slices.Compact(l)
	for _, a := range l {
		for _, b := range l {
			p := newPair(t, 5)
			p.had(a)
			p.raise(b)
			p.had(b)
			if free := p.p.Free(a); free > api.MaxCount || (free > 0) != p.p.May(a) {
				t.Fatalf("Free(%d) = %d, up to %d", a, free, p.p.Limit())
			}
		}
	}
}
