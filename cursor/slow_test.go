package cursor

import (
	"fmt"
	"slices"
	"testing"

	"lodestar/api"
)

// dice gives numbers from a fixed sequence.
type dice uint64

// upTo gives a number that is less than n.
func (d *dice) upTo(n int) int {
	*d = *d*6364136223846793005 + 1442695040888963407
	return int(uint64(*d) >> 33 % uint64(n))
}

// slowCursor is a cursor that a slow table has, or had.
type slowCursor struct {
	owner uint64
	ask   api.Ask
	used  uint32
	pages [][]api.Hit // all that were told
	ended bool
}

// slow is a table that forgets nothing: the cursor of the number n stands at the place n - 1.
type slow struct {
	idle    uint32
	cursors []slowCursor
}

// find gives a cursor that is there; nil, if there is none.
func (s *slow) find(n uint32) *slowCursor {
	if n == 0 || int(n) > len(s.cursors) || s.cursors[n-1].ended {
		return nil
	}
	return &s.cursors[n-1]
}

// end ends the cursor that stands there, and gives its pin.
func (s *slow) end(at int) int {
	s.cursors[at].ended = true
	return s.cursors[at].ask.Pin
}

func (s *slow) Open(owner uint64, pin int, vec []int32, f api.Filter, now uint32) (uint32, int) {
	went := 0
	if s.Len() == 8 {
		goes := -1
		for i, c := range s.cursors {
			if !c.ended && (goes < 0 || c.used < s.cursors[goes].used) {
				goes = i
			}
		}
		went = s.end(goes)
	}
	s.cursors = append(s.cursors, slowCursor{owner: owner, ask: api.Ask{Pin: pin, Vec: vec, Filter: f}, used: now})
	return uint32(len(s.cursors)), went
}

func (s *slow) Take(owner uint64, n, page, now uint32) (api.Ask, api.Errno) {
	c := s.find(n)
	switch {
	case c == nil || c.owner != owner:
		return api.Ask{}, api.ErrCursor
	case !c.near(page):
		return api.Ask{}, api.ErrArg
	}
	c.used = now
	a := c.ask
	for _, l := range c.pages[:page-1] {
		for _, h := range l {
			a.Has, a.Last = true, h
		}
	}
	return a, api.OK
}

// near tells whether a page is the last one that was told, or the next one.
func (c *slowCursor) near(page uint32) bool {
	many := len(c.pages)
	return page != 0 && (int(page) == many || int(page) == many+1)
}

func (s *slow) Told(n, page uint32, l []api.Hit) {
	if c := s.find(n); c != nil && c.near(page) {
		c.pages = append(c.pages[:page-1], slices.Clone(l))
	}
}

func (s *slow) Close(owner uint64, n uint32) (int, api.Errno) {
	if c := s.find(n); c == nil || c.owner != owner {
		return 0, api.ErrCursor
	}
	return s.end(int(n - 1)), api.OK
}

func (s *slow) Leave(owner uint64) []int {
	var pins []int
	for i, c := range s.cursors {
		if !c.ended && c.owner == owner {
			pins = append(pins, s.end(i))
		}
	}
	return pins
}

func (s *slow) Tick(now uint32) []int {
	var pins []int
	for i, c := range s.cursors {
		if !c.ended && int64(now)-int64(c.used) > int64(s.idle) {
			pins = append(pins, s.end(i))
		}
	}
	return pins
}

func (s *slow) Len() int {
	many := 0
	for _, c := range s.cursors {
		if !c.ended {
			many++
		}
	}
	return many
}

// pair is a table, and a slow one to which the same is done.
type pair struct {
	t     *testing.T
	p     *Table
	s     *slow
	done  []string       // what was done to both
	times map[string]int // how often what came of it
}

func newPair(t *testing.T, idle uint32) *pair {
	return &pair{t: t, p: New(idle), s: &slow{idle: idle}, times: map[string]int{}}
}

// did notes what is done, and what comes of it, and wants both to answer the same.
func (b *pair) did(what, came string, got, want any) {
	b.t.Helper()
	b.done = append(b.done, what)
	b.times[came]++
	if got, want := fmt.Sprint(got), fmt.Sprint(want); got != want {
		b.t.Fatalf("%v: %s; the slow one %s", b.done, got, want)
	}
	if b.p.Len() != b.s.Len() || b.p.Len() > api.MaxCursors {
		b.t.Fatalf("%v: %d cursors; the slow one %d", b.done, b.p.Len(), b.s.Len())
	}
}

func (b *pair) open(owner uint64, now uint32) {
	b.t.Helper()
	pin := len(b.s.cursors)*7%50 + 1
	vec, f := []int32{int32(pin)}, api.Filter{All: []string{fmt.Sprint(pin)}}
	n, went := b.p.Open(owner, pin, vec, f, now)
	m, goes := b.s.Open(owner, pin, vec, f, now)
	b.did(fmt.Sprint("Open ", owner, " ", now), fmt.Sprint("Open ", goes > 0), []any{n, went}, []any{m, goes})
}

func (b *pair) take(owner uint64, n, page, now uint32) {
	b.t.Helper()
	got, e := b.p.Take(owner, n, page, now)
	want, f := b.s.Take(owner, n, page, now)
	b.did(fmt.Sprint("Take ", owner, " ", n, " ", page, " ", now), fmt.Sprint("Take ", f, " ", want.Has), []any{got, e}, []any{want, f})
}

func (b *pair) told(n, page uint32, l []api.Hit) {
	b.t.Helper()
	b.p.Told(n, page, l)
	b.s.Told(n, page, l)
	b.did(fmt.Sprint("Told ", n, " ", page, " ", l), fmt.Sprint("Told ", len(l) > 0), nil, nil)
}

func (b *pair) close(owner uint64, n uint32) {
	b.t.Helper()
	pin, e := b.p.Close(owner, n)
	want, f := b.s.Close(owner, n)
	b.did(fmt.Sprint("Close ", owner, " ", n), fmt.Sprint("Close ", f), []any{pin, e}, []any{want, f})
}

func (b *pair) leave(owner uint64) {
	b.t.Helper()
	got, want := b.p.Leave(owner), b.s.Leave(owner)
	b.did(fmt.Sprint("Leave ", owner), fmt.Sprint("Leave ", min(len(want), 2)), got, want)
}

func (b *pair) tick(now uint32) {
	b.t.Helper()
	got, want := b.p.Tick(now), b.s.Tick(now)
	b.did(fmt.Sprint("Tick ", now), fmt.Sprint("Tick ", min(len(want), 2)), got, want)
}

// takeAll wants what either has to be alike.
func (b *pair) takeAll(owners uint64) {
	b.t.Helper()
	for n := range uint32(len(b.s.cursors) + 2) {
		for owner := range owners {
			b.take(owner, n, 1, 0)
			if c := b.s.find(n); c != nil {
				b.take(owner, n, uint32(len(c.pages)), 0)
				b.take(owner, n, uint32(len(c.pages)+1), 0)
			}
		}
	}
}

// step does to both what the dice say, at about the tick now.
func (b *pair) step(d *dice, now uint32) {
	b.t.Helper()
	owner, n := b.anyCursor(d)
	switch d.upTo(24) {
	case 0, 1, 2, 3, 4, 5:
		b.open(uint64(d.upTo(3)), now)
	case 6:
		b.close(owner, n)
	case 7:
		if d.upTo(4) == 0 {
			b.leave(owner)
		}
	case 8:
		b.tick(now)
	case 9, 10, 11, 12, 13, 14:
		b.told(n, b.anyPage(d, n), anyHits(d))
	default:
		b.take(owner, n, b.anyPage(d, n), now)
	}
}

// anyCursor gives mostly one that is there, and its owner.
func (b *pair) anyCursor(d *dice) (uint64, uint32) {
	owner, n := uint64(d.upTo(3)), uint32(max(len(b.s.cursors)-10, 0)+d.upTo(13))
	if c := b.s.find(n); c != nil && d.upTo(8) > 0 {
		owner = c.owner
	}
	return owner, n
}

// anyPage gives mostly one that may be told.
func (b *pair) anyPage(d *dice, n uint32) uint32 {
	c := b.s.find(n)
	if c == nil || d.upTo(6) == 0 {
		return uint32(d.upTo(6))
	}
	return uint32(len(c.pages) + d.upTo(2))
}

// anyHits gives up to three hits, in whatever order.
func anyHits(d *dice) []api.Hit {
	var l []api.Hit
	for range d.upTo(4) {
		l = append(l, hit(d.upTo(50)))
	}
	return l
}

func TestAsTheSlowOne(t *testing.T) {
	d := dice(3)
	times := map[string]int{}
	for i := range 600 {
		b := newPair(t, []uint32{0, 5, 20, 100}[i%4])
		b.times = times
		now := uint32(100)
		for range 100 {
			now += uint32(d.upTo(3))
			b.step(&d, now-uint32(d.upTo(4)*d.upTo(4)*d.upTo(2)))
		}
		b.takeAll(4)
	}
	for _, came := range []string{"Open true", "Open false", "Take 0 true", "Take 0 false", "Take 1 false", "Take 140 false", "Told true", "Told false",
		"Close 0", "Close 140", "Leave 0", "Leave 1", "Leave 2", "Tick 0", "Tick 1", "Tick 2"} {
		if times[came] < 50 {
			t.Errorf("%s: %d times", came, times[came])
		}
	}
}

// wantScripts does each script of so many of the steps, behind what begin does, and wants both tables to be alike.
func wantScripts(t *testing.T, long int, begin func(b *pair), steps []func(b *pair)) {
	t.Helper()
	scripts := 1
	for range long {
		scripts *= len(steps)
	}
	for script := range scripts {
		b := newPair(t, 3)
		begin(b)
		for range long {
			steps[script%len(steps)](b)
			script /= len(steps)
		}
		b.takeAll(2)
	}
}

func TestEveryScriptOfFewSteps(t *testing.T) {
	wantScripts(t, 5, func(*pair) {}, []func(b *pair){
		func(b *pair) { b.open(0, 0) },
		func(b *pair) { b.open(1, 2) },
		func(b *pair) { b.take(0, 1, 1, 1) },
		func(b *pair) { b.told(1, 1, hits(5, 6)) },
		func(b *pair) { b.told(1, 2, hits(7)) },
		func(b *pair) { b.told(1, 2, nil) },
		func(b *pair) { b.close(0, 1) },
		func(b *pair) { b.leave(1) },
		func(b *pair) { b.tick(4) },
	})
}

func TestEveryScriptWithOneMoreThanMayBe(t *testing.T) {
	begin := func(b *pair) {
		for i := range uint32(7) {
			b.open(uint64(i%2), 4+i*3%5)
		}
	}
	wantScripts(t, 4, begin, []func(b *pair){
		func(b *pair) { b.open(0, 5) },
		func(b *pair) { b.open(1, 4) },
		func(b *pair) { b.take(0, 1, 1, 8) },
		func(b *pair) { b.take(1, 6, 1, 3) },
		func(b *pair) { b.told(1, 1, hits(5)) },
		func(b *pair) { b.close(0, 3) },
		func(b *pair) { b.leave(1) },
		func(b *pair) { b.tick(8) },
	})
}
