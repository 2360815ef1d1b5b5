package links

import (
	"cmp"
	"math"
	"slices"
	"testing"

	"lodestar/api"
)

// order is the chapter's: nearer first, and of those equally far the one of the lesser place.
func order(a, b api.Hit) int {
	return cmp.Or(cmp.Compare(a.Dist, b.Dist), cmp.Compare(a.Id, b.Id))
}

// slowDist tells how far a and b are apart, word by word; 0, where that can't be told.
func slowDist(m api.Metric, a, b []int32) int64 {
	if m > 1 || len(a) != len(b) || len(a) < 1 || len(a) > 16 {
		return 0
	}
	var sum int64
	for i := range a {
		x, y := int64(a[i]), int64(b[i])
		if max(x, -x, y, -y) > 1<<20 {
			return 0
		}
		if m == 0 {
			sum += (x - y) * (x - y)
		} else {
			sum -= x * y
		}
	}
	return sum
}

// slow is a graph that does what the chapter says, word by word.
type slow struct {
	metric api.Metric
	nodes  []api.Node
}

func (g *slow) add(x api.Item, level int, v uint64) int {
	n := api.Node{Item: x, From: v}
	for l := 0; l == 0 || l <= level && l <= 4; l++ {
		n.Links = append(n.Links, nil)
	}
	g.nodes = append(g.nodes, n)
	return len(g.nodes) - 1
}

func (g *slow) on(i, level int) bool {
	return i >= 0 && i < len(g.nodes) && level >= 0 && level < len(g.nodes[i].Links)
}

func (g *slow) hit(q []int32, i int) api.Hit {
	return hit(slowDist(g.metric, q, g.nodes[i].Item.Vec), uint32(i))
}

func (g *slow) near(q []int32, l []int) []api.Hit {
	var hits []api.Hit
	for i := range g.nodes {
		if slices.Contains(l, i) {
			hits = append(hits, g.hit(q, i))
		}
	}
	slices.SortFunc(hits, order)
	return hits
}

func (g *slow) choose(q []int32, l []int, most int) []int {
	var taken, passed []int
	for _, h := range g.near(q, l) {
		over := false
		for _, i := range taken {
			over = over || g.hit(g.nodes[i].Item.Vec, int(h.Id)).Dist < h.Dist
		}
		if over {
			passed = append(passed, int(h.Id))
		} else if len(taken) < most {
			taken = append(taken, int(h.Id))
		}
	}
	for _, i := range passed {
		if len(taken) < most {
			taken = append(taken, i)
		}
	}
	return taken
}

func (g *slow) link(a, b, level, most int) bool {
	if !g.on(a, level) || !g.on(b, level) || a == b {
		return false
	}
	l := &g.nodes[a].Links[level]
	if slices.Index(*l, b) < 0 {
		*l = append(*l, b)
	}
	if len(*l) > most {
		*l = g.choose(g.nodes[a].Item.Vec, *l, most)
	}
	return true
}

// walk meets neighbours in an order of its own (which makes no difference): all nodes are asked whether they are some.
func (g *slow) walk(q []int32, from []int, width, level int) []api.Hit {
	met, waiting := map[int]bool{}, map[int]bool{}
	var best []api.Hit
	width = min(max(width, 1), 256)
	meet := func(i int, always bool) {
		if met[i] {
			return
		}
		met[i] = true
		h := g.hit(q, i)
		if always || len(best) < width || order(h, best[width-1]) < 0 {
			waiting[i] = true
			best = append(best, h)
			slices.SortFunc(best, order)
			best = best[:min(len(best), width)]
		}
	}
	for _, i := range from {
		if g.on(i, level) {
			meet(i, true)
		}
	}
	for len(waiting) > 0 {
		var l []int
		for i := range waiting {
			l = append(l, i)
		}
		next := g.near(q, l)[0]
		delete(waiting, int(next.Id))
		if len(best) == width && order(best[width-1], next) < 0 {
			break
		}
		at := int(next.Id)
		for i := range g.nodes {
			if slices.Contains(g.nodes[at].Links[level], i) || level == 0 && (i == at-1 || i == at+1) {
				meet(i, false)
			}
		}
	}
	return best
}

// source gives numbers from a fixed sequence.
type source uint32

func (s *source) below(n int) int {
	*s = *s*1664525 + 1013904223
	return int(*s>>8) % n
}

// oneOf gives one of l.
func oneOf[T any](s *source, l ...T) T {
	return l[s.below(len(l))]
}

// vec gives a vector, nearly always one of two parts, now and then one that may not be.
func (s *source) vec() []int32 {
	n := 2
	if s.below(9) == 0 {
		n = oneOf(s, 0, 1, 3, 16, 17)
	}
	v := make([]int32, n)
	for i := range v {
		v[i] = int32(s.below(15) - 7)
		if s.below(30) == 0 {
			v[i] = oneOf[int32](s, 1<<20, -1<<20, 1<<20+1, -1<<20-1, math.MaxInt32, math.MinInt32)
		}
	}
	return v
}

// place gives one of n, now and then one that isn't there.
func (s *source) place(n int) int {
	if n == 0 || s.below(12) == 0 {
		return oneOf(s, noPlaces(n)...)
	}
	return s.below(n)
}

// places gives at most so many, some of them perhaps more than once.
func (s *source) places(n, most int) []int {
	var l []int
	for range s.below(most + 1) {
		l = append(l, s.place(n))
	}
	return l
}

// level gives one, more often a low one, now and then one that isn't there.
func (s *source) level() int {
	return oneOf(s, 0, 0, 0, 0, 0, 1, 1, 1, 1, 2, 2, 2, 3, 4, -1, 5, math.MinInt, math.MaxInt)
}

// both are a graph and the slow one of it.
type both struct {
	*Graph
	slow *slow
}

func newBoth(m api.Metric) both {
	return both{New(m), &slow{metric: m}}
}

// grow adds a node to both.
func (b both) grow(t *testing.T, s *source) {
	t.Helper()
	x := api.Item{Id: uint32(s.below(50)), Vec: s.vec(), Tags: []string{"a", "b"}[:s.below(3)]}
	level, v := s.level(), uint64(s.below(9))
	if got, want := b.Add(x, level, v), b.slow.add(x, level, v); got != want {
		t.Fatalf("Add gives %d, not %d", got, want)
	}
}

// change does something to both, and fails the test unless the same is told.
func (b both) change(t *testing.T, s *source) {
	t.Helper()
	n := b.Len()
	switch s.below(9) {
	case 0:
		b.grow(t, s)
	case 1:
		i, v := s.place(n), uint64(s.below(9))
		want := b.slow.on(i, 0)
		if want {
			b.slow.nodes[i].Until = v
		}
		if got := b.Until(i, v); got != want {
			t.Fatalf("Until(%d, %d) is %t", i, v, got)
		}
	default:
		a, c, level := s.place(n), s.place(n), s.level()
		most := oneOf(s, 1, 2, 3, 4, 4, 8, 8, 16, 0, -1, math.MinInt, math.MaxInt)
		if got, want := b.Link(a, c, level, most), b.slow.link(a, c, level, most); got != want {
			t.Fatalf("Link(%d, %d, %d, %d) is %t", a, c, level, most, got)
		}
	}
}

// ask asks both, and fails the test unless the same is told.
func (b both) ask(t *testing.T, s *source) {
	t.Helper()
	n := b.Len()
	q, l := s.vec(), s.places(n, 12)
	wantNear(t, b.Graph, q, l, b.slow.near(q, l)...)
	most := oneOf(s, 1, 2, 3, 4, 6, 9, 12, 0, -1, math.MinInt, math.MaxInt)
	wantChoose(t, b.Graph, q, l, most, b.slow.choose(q, l, most)...)
	from, level := s.places(n, 4), s.level()
	width := oneOf(s, 1, 1, 2, 3, 4, 6, 8, 12, 20, n, n+1, 255, 256, 257, 0, -1, math.MinInt, math.MaxInt)
	wantWalk(t, b.Graph, q, from, width, level, b.slow.walk(q, from, width, level)...)
}

func TestAllIsAsTheSlowOneTells(t *testing.T) {
	for seed := range source(150) {
		s := seed
		b := newBoth(api.Metric(s.below(20)) % 3)
		for range s.below(40) {
			b.grow(t, &s)
		}
		for range 120 {
			b.change(t, &s)
			b.ask(t, &s)
			if t.Failed() {
				t.Fatalf("seed %d", seed)
			}
		}
		wantNodes(t, b.Graph, b.slow.nodes)
	}
}

func TestGreatGraphsAreAsTheSlowOneTells(t *testing.T) {
	for seed := range source(6) {
		s := seed
		b := newBoth(api.Metric(s.below(2)))
		for range 320 {
			b.grow(t, &s)
		}
		for range 1500 {
			b.change(t, &s)
		}
		for range 12 {
			b.ask(t, &s)
		}
		wantNodes(t, b.Graph, b.slow.nodes)
	}
}

// nest links a new node to some that a walk finds, and them to it, as a search's graph is made.
func (b both) nest(t *testing.T, s *source, width, most int) {
	t.Helper()
	x := at(int32(s.below(400)-200), int32(s.below(400)-200))
	entry, level := s.place(b.Len()), oneOf(s, 0, 0, 0, 1)
	found := b.Walk(x.Vec, []int{entry}, width, 0)
	wantWalk(t, b.Graph, x.Vec, []int{entry}, width, 0, b.slow.walk(x.Vec, []int{entry}, width, 0)...)
	var l []int
	for _, h := range found {
		l = append(l, int(h.Id))
	}
	i := b.Add(x, level, 1)
	b.slow.add(x, level, 1)
	for _, j := range b.Choose(x.Vec, l, most/2) {
		for _, c := range [][2]int{{i, j}, {j, i}} {
			if got, want := b.Link(c[0], c[1], 0, most), b.slow.link(c[0], c[1], 0, most); got != want {
				t.Fatalf("Link(%d, %d) is %t", c[0], c[1], got)
			}
		}
	}
}

func TestGraphsThatAreMadeForSearchingAreAsTheSlowOneTells(t *testing.T) {
	for _, m := range []api.Metric{api.Square, api.Minus} {
		for seed := range source(4) {
			s := seed
			b := newBoth(m)
			for range 200 {
				b.nest(t, &s, 1+s.below(10), 2+s.below(6))
			}
			for range 60 {
				q, from := []int32{int32(s.below(400) - 200), int32(s.below(400) - 200)}, s.places(200, 3)
				width := oneOf(&s, 1, 2, 5, 10, 40, 199, 200)
				wantWalk(t, b.Graph, q, from, width, 0, b.slow.walk(q, from, width, 0)...)
			}
			wantNodes(t, b.Graph, b.slow.nodes)
		}
	}
}
