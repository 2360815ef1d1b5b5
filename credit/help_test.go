package credit

import (
	"math"
	"testing"

	"lodestar/api"
)

const most = math.MaxUint32

// numbers gives numbers at all edges: those of one kind of number or another, of the counts, and about the number n.
func numbers(n uint32) []uint32 {
	l := []uint32{0, 1, 2, 3, 7, 8, 9, 100, most - 1, most}
	for _, at := range []uint32{n, 1 << 8, 1 << 16, api.MaxCount, 1 << 31, n + 1<<8, n + 1<<16, n + 1<<30, n + 1<<31} {
		for i := range uint32(19) {
			l = append(l, at+i-9)
		}
	}
	return l
}

// wantLimit wants a window's limit to be this one, and all that is told to be just so, however often it is asked.
func wantLimit(t *testing.T, w *Window, limit uint32) {
	t.Helper()
	for range 2 {
		if w.Limit() != limit {
			t.Fatalf("the limit is %d; want %d", w.Limit(), limit)
		}
		for _, n := range numbers(limit) {
			var free uint32
			if n >= 1 && n <= limit {
				free = limit + 1 - n
			}
			if w.May(n) != (free > 0) || w.Free(n) != free {
				t.Fatalf("limit %d: May(%d) = %t, Free(%d) = %d; want %t, %d", limit, n, w.May(n), n, w.Free(n), free > 0, free)
			}
		}
	}
}

// told is what a window is told (or not, if it is nothing), and what it must be then.
type told struct {
	n       uint32
	another bool   // whether the limit is another one
	limit   uint32 // then
}

// wantHad wants Had to answer so, one after the other; and to change nothing, if it is said again.
func wantHad(t *testing.T, w *Window, l ...told) {
	t.Helper()
	wantTold(t, "Had", w, w.Had, l)
}

// wantRaise wants the same of Raise.
func wantRaise(t *testing.T, w *Window, l ...told) {
	t.Helper()
	wantTold(t, "Raise", w, w.Raise, l)
}

func wantTold(t *testing.T, what string, w *Window, tell func(uint32) bool, l []told) {
	t.Helper()
	for _, x := range l {
		was := w.Limit()
		if another := tell(x.n); another != x.another || w.Limit() != x.limit {
			t.Fatalf("limit %d: %s(%d) = %t, limit %d; want %t, %d", was, what, x.n, another, w.Limit(), x.another, x.limit)
		}
		if tell(x.n) {
			t.Fatalf("%s(%d) again: the limit is said to be another one", what, x.n)
		}
		wantLimit(t, w, x.limit)
	}
}
