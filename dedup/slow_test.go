package dedup

import (
	"fmt"
	"slices"
	"testing"

	"lodestar/api"
)

// dice gives numbers from a fixed sequence.
type dice uint64

// upTo gives a number that is less than n.
func (d *dice) upTo(n int) int {
	*d = *d*6364136223846793005 + 1442695040888963407
	return int(uint64(*d) >> 33 % uint64(n))
}

// slow is a table that forgets no answer: that of the request n stands at the place n - 1.
type slow struct {
	answers []api.Message
	had     []bool // of each, whether it was acknowledged
}

// at gives the place of a request that was done; -1, if it wasn't.
func (s *slow) at(req uint32) int {
	if int64(req) > int64(len(s.answers)) {
		return -1
	}
	return int(req) - 1
}

func (s *slow) Ask(req uint32) (api.Message, api.Verdict) {
	i := s.at(req)
	switch {
	case req == 0 || i >= 0 && s.had[i]:
		return api.Message{}, api.Past
	case i >= 0:
		return s.answers[i], api.Again
	case req > 1 && s.at(req-1) < 0:
		return api.Message{}, api.Gap
	}
	return api.Message{}, api.Fresh
}

func (s *slow) Keep(req uint32, a api.Message) api.Errno {
	if _, v := s.Ask(req); v != api.Fresh {
		return api.ErrArg
	}
	if s.Len() == 16 {
		return api.ErrFull
	}
	s.answers, s.had = append(s.answers, a), append(s.had, false)
	return api.OK
}

func (s *slow) Ack(n uint32) api.Errno {
	if n > 0 && s.at(n) < 0 {
		return api.ErrArg
	}
	for i := range n {
		s.had[i] = true
	}
	return api.OK
}

func (s *slow) Done() uint32 {
	return uint32(len(s.answers))
}

func (s *slow) Acked() uint32 {
	if i := slices.Index(s.had, false); i >= 0 {
		return uint32(i)
	}
	return s.Done()
}

func (s *slow) Len() int {
	many := 0
	for _, had := range s.had {
		if !had {
			many++
		}
	}
	return many
}

// pair is a table, and a slow one to which the same is done.
type pair struct {
	t     *testing.T
	p     *Table
	s     *slow
	done  []string       // what was done to both
	times map[string]int // how often what came of it
}

func newPair(t *testing.T) *pair {
	return &pair{t: t, p: New(), s: &slow{}, times: map[string]int{}}
}

// did notes what is done, and what comes of it, and wants both to answer the same.
func (b *pair) did(what, came string, got, want any) {
	b.t.Helper()
	b.done = append(b.done, what)
	b.times[came]++
	if got != want {
		b.t.Fatalf("%v: %v; the slow one %v", b.done, got, want)
	}
	if b.p.Done() != b.s.Done() || b.p.Acked() != b.s.Acked() || b.p.Len() != b.s.Len() || b.p.Len() > api.MaxKept {
		b.t.Fatalf("%v: %d, %d, %d; the slow one %d, %d, %d", b.done, b.p.Done(), b.p.Acked(), b.p.Len(), b.s.Done(), b.s.Acked(), b.s.Len())
	}
}

func (b *pair) ask(req uint32) {
	b.t.Helper()
	a, v := b.p.Ask(req)
	x, w := b.s.Ask(req)
	b.did(fmt.Sprint("Ask ", req), fmt.Sprint("Ask ", w), v, w)
	if !same(a, x) {
		b.t.Fatalf("%v: %+v; the slow one %+v", b.done, a, x)
	}
}

// keep keeps an answer that tells of how much was done to both, so that no two are alike.
func (b *pair) keep(req uint32) {
	b.t.Helper()
	a := api.Message{Kind: api.Answer, Req: req, N: uint32(len(b.done)), Vec: []int32{int32(req)}}
	e := b.s.Keep(req, a)
	b.did(fmt.Sprint("Keep ", req), fmt.Sprint("Keep ", e), b.p.Keep(req, a), e)
}

func (b *pair) ack(n uint32) {
	b.t.Helper()
	acked := b.s.Acked()
	e := b.s.Ack(n)
	b.did(fmt.Sprint("Ack ", n), fmt.Sprint("Ack ", e, " ", min(b.s.Acked()-acked, 2)), b.p.Ack(n), e)
}

// askAll wants what either has to be alike.
func (b *pair) askAll() {
	b.t.Helper()
	for req := range b.s.Done() + 4 {
		b.ask(req)
	}
}

// step does to both what the dice say.
func (b *pair) step(d *dice) {
	b.t.Helper()
	near := uint32(max(0, int(b.s.Done())-18+d.upTo(22)))
	switch d.upTo(10) {
	case 0:
		b.keep(near)
	case 1, 2, 3, 4, 5:
		b.keep(b.s.Done() + 1)
	case 6:
		b.ack(near)
	case 7:
		b.ack(min(b.s.Done(), b.s.Acked()+uint32(d.upTo(5))))
	default:
		b.ask(near)
	}
}

func TestAsTheSlowOne(t *testing.T) {
	d := dice(3)
	times := map[string]int{}
	for range 300 {
		b := newPair(t)
		b.times = times
		for range 300 {
			b.step(&d)
		}
		b.askAll()
	}
	for _, came := range []string{"Ask 1", "Ask 2", "Ask 3", "Ask 4", "Keep 0", "Keep 1", "Keep 4", "Ack 0 0", "Ack 0 1", "Ack 0 2", "Ack 1 0"} {
		if times[came] < 300 {
			t.Errorf("%s: %d times", came, times[came])
		}
	}
}

// wantScripts does each script of so many of the steps, behind what begin does, and wants both tables to be alike.
func wantScripts(t *testing.T, long int, begin func(b *pair), steps []func(b *pair)) {
	t.Helper()
	scripts := 1
	for range long {
		scripts *= len(steps)
	}
	for script := range scripts {
		b := newPair(t)
		begin(b)
		for range long {
			steps[script%len(steps)](b)
			script /= len(steps)
		}
		b.askAll()
	}
}

func TestEveryScriptOfFewSteps(t *testing.T) {
	wantScripts(t, 5, func(*pair) {}, []func(b *pair){
		func(b *pair) { b.keep(0) },
		func(b *pair) { b.keep(1) },
		func(b *pair) { b.keep(2) },
		func(b *pair) { b.keep(3) },
		func(b *pair) { b.ack(0) },
		func(b *pair) { b.ack(1) },
		func(b *pair) { b.ack(2) },
		func(b *pair) { b.ack(3) },
	})
}

func TestEveryScriptWithAboutAsManyAsMayBe(t *testing.T) {
	begin := func(b *pair) {
		for n := uint32(1); n <= 17; n++ {
			b.keep(n)
			b.ack(n / 8)
		}
	}
	wantScripts(t, 4, begin, []func(b *pair){
		func(b *pair) { b.keep(b.s.Done()) },
		func(b *pair) { b.keep(b.s.Done() + 1) },
		func(b *pair) { b.keep(b.s.Done() + 2) },
		func(b *pair) { b.ack(b.s.Acked()) },
		func(b *pair) { b.ack(b.s.Acked() + 1) },
		func(b *pair) { b.ack(b.s.Done()) },
		func(b *pair) { b.ack(b.s.Done() + 1) },
	})
}
