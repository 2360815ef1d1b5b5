package credit

import (
	"fmt"
	"testing"

	"lodestar/api"
)

// dice gives numbers from a fixed sequence.
type dice uint64

// upTo gives a number that is less than n.
func (d *dice) upTo(n int) int {
	*d = *d*6364136223846793005 + 1442695040888963407
	return int(uint64(*d) >> 33 % uint64(n))
}

// near gives a number near that one; now and then a small one, and seldom one at some edge: most of these bring a window to its end.
func (d *dice) near(n uint32) uint32 {
	switch d.upTo(100) {
	case 0, 1, 2, 3, 4:
		return uint32(d.upTo(20))
	case 5:
		l := numbers(n)
		return l[d.upTo(len(l))]
	}
	return max(n, 12) - 12 + uint32(d.upTo(20))
}

// slow is a window that keeps all that it was told, and works out its limit from that each time.
type slow struct {
	size        int
	had, raised []uint32
}

func (s *slow) Limit() uint32 {
	limit := int64(min(max(s.size, 1), 8))
	size := limit
	for _, n := range s.had {
		limit = max(limit, int64(n)+size)
	}
	for _, n := range s.raised {
		limit = max(limit, int64(n))
	}
	return uint32(min(limit, 1<<30))
}

func (s *slow) Had(n uint32) bool {
	was := s.Limit()
	s.had = append(s.had, n)
	return s.Limit() != was
}

func (s *slow) Raise(limit uint32) bool {
	was := s.Limit()
	s.raised = append(s.raised, limit)
	return s.Limit() != was
}

// pair is a window, and a slow one to which the same is done.
type pair struct {
	t     *testing.T
	p     *Window
	s     *slow
	done  []string       // what was done to both
	times map[string]int // how often what came of it
}

func newPair(t *testing.T, size int) *pair {
	return &pair{t: t, p: New(size), s: &slow{size: size}, times: map[string]int{}}
}

func (b *pair) had(n uint32) {
	b.t.Helper()
	b.did("Had", n, b.p.Had(n), b.s.Had(n))
}

func (b *pair) raise(limit uint32) {
	b.t.Helper()
	b.did("Raise", limit, b.p.Raise(limit), b.s.Raise(limit))
}

// did notes what was done, and what came of it, and wants both to be alike.
func (b *pair) did(what string, n uint32, got, want bool) {
	b.t.Helper()
	b.done = append(b.done, fmt.Sprintf("%s(%d)", what, n))
	b.times[fmt.Sprint(what, " ", want)]++
	if got != want || b.p.Limit() != b.s.Limit() {
		b.t.Fatalf("size %d, %v: %t, limit %d; the slow one %t, %d", b.s.size, b.done, got, b.p.Limit(), want, b.s.Limit())
	}
}

func TestAsTheSlowOne(t *testing.T) {
	d := dice(17)
	times := map[string]int{}
	for script := range 2000 {
		b := newPair(t, d.upTo(14)-3)
		b.times = times
		if script%4 == 0 {
			b.had(api.MaxCount - 60)
		}
		for range 60 {
			if d.upTo(2) == 0 {
				b.had(d.near(b.s.Limit()))
			} else {
				b.raise(d.near(b.s.Limit()))
			}
		}
		wantLimit(t, b.p, b.s.Limit())
	}
	for _, came := range []string{"Had true", "Had false", "Raise true", "Raise false"} {
		if times[came] < 5000 {
			t.Errorf("%s: %d times", came, times[came])
		}
	}
}

func TestEveryScriptOfFewSteps(t *testing.T) {
	for _, base := range []uint32{0, 100, api.MaxCount - 4} {
		var steps []func(b *pair)
		for i := range uint32(6) {
			steps = append(steps, func(b *pair) { b.had(base + i) }, func(b *pair) { b.raise(base + i + 1) })
		}
		for _, size := range []int{1, 2, 3, 8} {
			wantScripts(t, size, 4, steps)
		}
	}
}

// wantScripts does each script of so many of the steps, and wants both windows to be alike.
func wantScripts(t *testing.T, size, long int, steps []func(b *pair)) {
	t.Helper()
	scripts := 1
	for range long {
		scripts *= len(steps)
	}
	for script := range scripts {
		b := newPair(t, size)
		for range long {
			steps[script%len(steps)](b)
			script /= len(steps)
		}
	}
}
