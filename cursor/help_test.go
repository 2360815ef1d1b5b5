package cursor

import (
	"math"
	"reflect"
	"slices"
	"testing"

	"lodestar/api"
)

// someVec gives the vector of the cursors that most tests open.
func someVec() []int32 {
	return []int32{3, -4}
}

// someFilter gives their filter.
func someFilter() api.Filter {
	return api.Filter{All: []string{"a", "b"}, Any: []string{"c"}, None: []string{"d", "e", "f"}}
}

// hit gives a hit that tells of both its numbers.
func hit(n int) api.Hit {
	return api.Hit{Dist: int64(10 * n), Id: uint32(n)}
}

// hits gives a page with the hits of ids.
func hits(ids ...int) []api.Hit {
	var l []api.Hit
	for _, n := range ids {
		l = append(l, hit(n))
	}
	return l
}

// first gives what a page asks for that is behind none.
func first(pin int) api.Ask {
	return api.Ask{Pin: pin, Vec: someVec(), Filter: someFilter()}
}

// behind gives what a page asks for that is behind the hit n.
func behind(pin, n int) api.Ask {
	a := first(pin)
	a.Has, a.Last = true, hit(n)
	return a
}

// same tells whether two asks are alike. No list and an empty one are.
func same(a, b api.Ask) bool {
	f, g := a.Filter, b.Filter
	return a.Pin == b.Pin && slices.Equal(a.Vec, b.Vec) && slices.Equal(f.All, g.All) && slices.Equal(f.Any, g.Any) &&
		slices.Equal(f.None, g.None) && a.Has == b.Has && a.Last == b.Last
}

// open opens a cursor with the vector and the filter of most tests.
func open(s *Table, owner uint64, pin int, now uint32) (uint32, int) {
	return s.Open(owner, pin, someVec(), someFilter(), now)
}

// wantOpen wants a cursor of the number n to be opened, and none to go for it.
func wantOpen(t *testing.T, s *Table, owner uint64, pin int, now, n uint32) {
	t.Helper()
	many := s.Len()
	if got, went := open(s, owner, pin, now); got != n || went != 0 {
		t.Fatalf("Open(%d, %d, %d) = %d, %d; want %d, 0", owner, pin, now, got, went, n)
	}
	wantLen(t, s, many+1)
}

// wantPush wants a cursor of the number n to be opened, and the one with the pin want to go for it.
func wantPush(t *testing.T, s *Table, owner uint64, pin int, now, n uint32, want int) {
	t.Helper()
	wantLen(t, s, api.MaxCursors)
	if got, went := open(s, owner, pin, now); got != n || went != want {
		t.Fatalf("Open(%d, %d, %d) = %d, %d; want %d, %d", owner, pin, now, got, went, n, want)
	}
	wantLen(t, s, api.MaxCursors)
}

// wantTake wants a page to be taken, and to ask for want.
func wantTake(t *testing.T, s *Table, owner uint64, n, page, now uint32, want api.Ask) {
	t.Helper()
	many := s.Len()
	if a, e := s.Take(owner, n, page, now); e != api.OK || !same(a, want) {
		t.Fatalf("Take(%d, %d, %d, %d) = %v, %d; want %v", owner, n, page, now, a, e, want)
	}
	wantLen(t, s, many)
}

// wantNoTake wants a page not to be taken, by the error want, and nothing to change.
func wantNoTake(t *testing.T, s *Table, owner uint64, n, page, now uint32, want api.Errno) {
	t.Helper()
	before := kept(s)
	if a, e := s.Take(owner, n, page, now); e != want || !same(a, api.Ask{}) {
		t.Fatalf("Take(%d, %d, %d, %d) = %v, %d; want nothing and %d", owner, n, page, now, a, e, want)
	}
	wantKept(t, s, before)
}

// beside gives pages that may not be taken, nor told, when so many were told.
func beside(told uint32) []uint32 {
	l := []uint32{0, 1, 2, 3, told - 2, told - 1, told + 2, told + 3, math.MaxUint32 - 1, math.MaxUint32}
	for _, far := range []uint32{1 << 8, 1 << 16, 1 << 31} {
		l = append(l, told+far, told+1+far)
	}
	return slices.DeleteFunc(l, func(page uint32) bool { return page > 0 && (page == told || page == told+1) })
}

// wantPages wants the pages to be taken that may be, behind so many that were told, and no others. The last one asks for again, the next one for next.
func wantPages(t *testing.T, s *Table, owner uint64, n, told, now uint32, again, next api.Ask) {
	t.Helper()
	for _, page := range beside(told) {
		wantNoTake(t, s, owner, n, page, now, api.ErrArg)
	}
	for range 2 {
		wantTake(t, s, owner, n, told+1, now, next)
		if told > 0 {
			wantTake(t, s, owner, n, told, now, again)
		}
	}
}

// wantNotTold wants nothing to be done when a page is told.
func wantNotTold(t *testing.T, s *Table, n, page uint32) {
	t.Helper()
	before := kept(s)
	for _, l := range [][]api.Hit{nil, {}, {{}}, hits(98), hits(97, 98, 99)} {
		s.Told(n, page, l)
		wantKept(t, s, before)
	}
}

// wantClose wants a cursor to be closed, its pin to be told, and it to be gone.
func wantClose(t *testing.T, s *Table, owner uint64, n uint32, pin int) {
	t.Helper()
	many := s.Len()
	if got, e := s.Close(owner, n); got != pin || e != api.OK {
		t.Fatalf("Close(%d, %d) = %d, %d; want %d", owner, n, got, e, pin)
	}
	wantLen(t, s, many-1)
	wantNone(t, s, n, owner)
}

// wantNotOwn wants the cursor n to be none of that owner's, and asking for it to change nothing.
func wantNotOwn(t *testing.T, s *Table, owner uint64, n uint32) {
	t.Helper()
	for _, page := range []uint32{0, 1, 2, 3, math.MaxUint32} {
		for _, now := range []uint32{0, 5, math.MaxUint32} {
			wantNoTake(t, s, owner, n, page, now, api.ErrCursor)
		}
	}
	before := kept(s)
	if pin, e := s.Close(owner, n); pin != 0 || e != api.ErrCursor {
		t.Fatalf("Close(%d, %d) = %d, %d; want 0, %d", owner, n, pin, e, api.ErrCursor)
	}
	wantKept(t, s, before)
}

// wantNone wants there to be no cursor n, whoever asks.
func wantNone(t *testing.T, s *Table, n uint32, owners ...uint64) {
	t.Helper()
	for _, owner := range append(owners, 0, 1, 7, 8, math.MaxUint64) {
		wantNotOwn(t, s, owner, n)
	}
	for _, page := range []uint32{0, 1, 2, math.MaxUint32} {
		wantNotTold(t, s, n, page)
	}
}

// wantLeave wants the cursors with these pins to go with their owner, and no others.
func wantLeave(t *testing.T, s *Table, owner uint64, pins ...int) {
	t.Helper()
	many := s.Len()
	if l := s.Leave(owner); !slices.Equal(l, pins) {
		t.Fatalf("Leave(%d) = %v; want %v", owner, l, pins)
	}
	wantLen(t, s, many-len(pins))
}

// wantTick wants the cursors with these pins to go, and no others.
func wantTick(t *testing.T, s *Table, now uint32, pins ...int) {
	t.Helper()
	many := s.Len()
	if l := s.Tick(now); !slices.Equal(l, pins) {
		t.Fatalf("Tick(%d) = %v; want %v", now, l, pins)
	}
	wantLen(t, s, many-len(pins))
}

// wantLen wants there to be so many cursors.
func wantLen(t *testing.T, s *Table, want int) {
	t.Helper()
	if n := s.Len(); n != want {
		t.Fatalf("%d cursors; want %d", n, want)
	}
}

// kept gives all that a table keeps.
func kept(s *Table) Table {
	c := *s
	c.cursors = map[uint32]*cursor{}
	for n, old := range s.cursors {
		x := *old
		x.vec, x.filter = cloneList(old.vec), cloneFilter(old.filter)
		c.cursors[n] = &x
	}
	return c
}

// wantKept wants a table to keep what it kept before.
func wantKept(t *testing.T, s *Table, before Table) {
	t.Helper()
	if now := kept(s); !reflect.DeepEqual(now, before) {
		t.Fatalf("what should do nothing has changed %v to %v", before, now)
	}
}
