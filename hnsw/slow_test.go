package hnsw

import (
	"cmp"
	"math"
	"slices"
	"testing"

	"lodestar/api"
	"lodestar/fixvec"
	"lodestar/links"
	"lodestar/tags"
)

// slow is an index that does what the chapter says, word by word.
type slow struct {
	metric      api.Metric
	most, width int
	nodes       []api.Node
}

// graph gives a graph of the nodes, with just their links.
func (s *slow) graph() *links.Graph {
	g := links.New(s.metric)
	for i, n := range s.nodes {
		g.Add(n.Item, len(n.Links)-1, n.From)
		g.Until(i, n.Until)
	}
	for i, n := range s.nodes {
		for level, l := range n.Links {
			for _, j := range l {
				g.Link(i, j, level, math.MaxInt)
			}
		}
	}
	return g
}

// read takes the nodes from a graph.
func (s *slow) read(g *links.Graph) {
	s.nodes = nil
	for i := range g.Len() {
		n, _ := g.Node(i)
		s.nodes = append(s.nodes, n)
	}
}

func (s *slow) mostOn(level int) int {
	if level > 0 {
		return s.most
	}
	return s.most + s.most
}

// entry gives the place of the first node of the greatest level, and that level.
func (s *slow) entry() (int, int) {
	for level := 4; level >= 0; level-- {
		for i, n := range s.nodes {
			if len(n.Links) == level+1 {
				return i, level
			}
		}
	}
	return -1, -1
}

func (s *slow) down(g *links.Graph, q []int32, level int) int {
	i, on := s.entry()
	for ; on > level; on-- {
		i = int(g.Walk(q, []int{i}, 1, on)[0].Id)
	}
	return i
}

func (s *slow) put(y api.Item, level int, v uint64) {
	s.cut(y.Id, v)
	if level < 0 {
		level = 0
	}
	if level > 4 {
		level = 4
	}
	g := s.graph()
	type chosen struct{ level, place int }
	var l []chosen
	_, on := s.entry()
	if on > level {
		on = level
	}
	from := []int{s.down(g, y.Vec, level)}
	for ; on >= 0; on-- {
		found := g.Walk(y.Vec, from, s.width, on)
		from = nil
		for _, h := range found {
			from = append(from, int(h.Id))
		}
		for _, i := range g.Choose(y.Vec, from, s.most) {
			l = append(l, chosen{on, i})
		}
	}
	n := g.Add(y, level, v)
	for _, c := range l {
		g.Link(n, c.place, c.level, s.mostOn(c.level))
		g.Link(c.place, n, c.level, s.mostOn(c.level))
	}
	s.read(g)
}

func (s *slow) cut(id uint32, v uint64) bool {
	was := false
	for i, n := range s.nodes {
		if n.Item.Id == id && n.Until == 0 {
			was = true
			s.nodes[i].Until = v
		}
	}
	return was
}

// thereAt tells whether a node is there at v.
func thereAt(n api.Node, v uint64) bool {
	if n.Until == 0 {
		return n.From <= v
	}
	return n.From <= v && v < n.Until
}

func (s *slow) search(q []int32, f api.Filter, k, width int, v uint64) []api.Hit {
	k = min(max(k, 0), 256)
	g := s.graph()
	var l []api.Hit
	for _, h := range g.Walk(q, []int{s.down(g, q, 0)}, max(width, k), 0) {
		n := s.nodes[h.Id]
		if _, ok := fixvec.Dist(s.metric, q, n.Item.Vec); ok && thereAt(n, v) && tags.Match(f, n.Item.Tags) {
			l = append(l, hit(h.Dist, n.Item.Id))
		}
	}
	slices.SortStableFunc(l, func(a, b api.Hit) int {
		return cmp.Or(cmp.Compare(a.Dist, b.Dist), cmp.Compare(a.Id, b.Id))
	})
	return l[:min(k, len(l))]
}

func (s *slow) stays(i int, keep []uint64) bool {
	if s.nodes[i].Until == 0 {
		return true
	}
	for _, v := range keep {
		if thereAt(s.nodes[i], v) {
			return true
		}
	}
	return false
}

func (s *slow) sweep(keep []uint64) int {
	place := map[int]int{}
	rest := &slow{s.metric, s.most, s.width, nil}
	for i, n := range s.nodes {
		if s.stays(i, keep) {
			place[i] = len(rest.nodes)
			rest.nodes = append(rest.nodes, api.Node{Item: n.Item, From: n.From, Until: n.Until, Links: make([][]int, len(n.Links))})
		}
	}
	if len(rest.nodes) == len(s.nodes) {
		return 0
	}
	g := rest.graph()
	for i, n := range s.nodes {
		for level, l := range n.Links {
			var first, then []int
			for _, j := range l {
				if s.stays(j, keep) {
					first = append(first, j)
				} else {
					then = append(then, s.nodes[j].Links[level]...)
				}
			}
			for _, j := range slices.Concat(first, then) {
				if s.stays(i, keep) && s.stays(j, keep) && i != j {
					g.Link(place[i], place[j], level, s.mostOn(level))
				}
			}
		}
	}
	went := len(s.nodes) - len(rest.nodes)
	s.read(g)
	return went
}

// source gives numbers from a fixed sequence.
type source uint32

func (s *source) below(n int) int {
	*s = *s*1664525 + 1013904223
	return int(*s>>8) % n
}

// oneOf gives one of l.
func oneOf[T any](s *source, l ...T) T {
	return l[s.below(len(l))]
}

// vec gives a vector, nearly always one of two parts, now and then one that may not be.
func (s *source) vec() []int32 {
	n := 2
	if s.below(15) == 0 {
		n = oneOf(s, 0, 1, 3, 16, 17)
	}
	v := make([]int32, n)
	for i := range v {
		v[i] = int32(s.below(25) - 12)
		if s.below(40) == 0 {
			v[i] = oneOf[int32](s, 1<<20, -1<<20, 1<<20+1, -1<<20-1, math.MaxInt32, math.MinInt32)
		}
	}
	return v
}

// tags gives at most two tags.
func (s *source) tags() []string {
	return oneOf(s, nil, []string{"a"}, []string{"b"}, []string{"a", "b"})
}

// filter gives one, more often that which matches all.
func (s *source) filter() api.Filter {
	if s.below(2) == 0 {
		return api.Filter{}
	}
	return api.Filter{All: s.tags(), Any: s.tags(), None: oneOf(s, nil, nil, []string{"b"})}
}

// level gives one, more often a low one, now and then one that is brought to its range.
func (s *source) level() int {
	return oneOf(s, 0, 0, 0, 0, 0, 0, 0, 1, 1, 1, 1, 2, 2, 3, 4, -1, 5, math.MinInt, math.MaxInt)
}

// both are an index and the slow one of it, and the version at which both are.
type both struct {
	*Index
	slow *slow
	v    uint64
	ids  int
}

// newBoth gives both without nodes, of Ids up to ids.
func newBoth(m api.Metric, most, width, ids int) *both {
	return &both{New(m, most, width), &slow{metric: m, most: most, width: width}, 0, ids}
}

// version gives one that isn't ahead of what came, but now and then.
func (b *both) version(s *source) uint64 {
	if s.below(40) == 0 {
		return oneOf(s, 0, b.v/2, math.MaxUint64)
	}
	b.v += uint64(s.below(3))
	return max(b.v, 1)
}

// change does something to both, and fails the test unless the same is told.
func (b *both) change(t *testing.T, s *source) {
	t.Helper()
	id, v := uint32(s.below(b.ids)), b.version(s)
	switch s.below(12) {
	case 0, 1:
		if got, want := b.Cut(id, v), b.slow.cut(id, v); got != want {
			t.Fatalf("Cut(%d, %d) is %t", id, v, got)
		}
	case 2:
		keep := make([]uint64, s.below(4))
		for i := range keep {
			keep[i] = uint64(s.below(int(b.v) + 2))
		}
		if got, want := b.Sweep(keep), b.slow.sweep(keep); got != want {
			t.Fatalf("Sweep(%v) is %d, not %d", keep, got, want)
		}
	default:
		y, level := api.Item{Id: id, Vec: s.vec(), Tags: s.tags()}, s.level()
		b.Put(y, level, v)
		b.slow.put(y, level, v)
	}
}

// ask asks both, and fails the test unless the same is told.
func (b *both) ask(t *testing.T, s *source) {
	t.Helper()
	n := b.Len()
	k := oneOf(s, 1, 2, 3, 5, 9, 32, n, 256, 257, 0, -1, math.MinInt, math.MaxInt)
	width := oneOf(s, 0, 0, 1, 2, 3, 5, 9, 20, n, 256, 257, -1, math.MinInt, math.MaxInt)
	q, f, v := s.vec(), s.filter(), uint64(s.below(int(b.v)+2))
	wantSearch(t, b.Index, q, f, k, width, v, b.slow.search(q, f, k, width, v)...)
}

// want fails the test unless both have the same nodes, and the same entry.
func (b *both) want(t *testing.T) {
	t.Helper()
	entry, _ := b.slow.entry()
	wantNodes(t, b.Index, entry, b.slow.nodes...)
}

func TestAllIsAsTheSlowOneTells(t *testing.T) {
	for seed := range source(120) {
		s := seed
		b := newBoth(api.Metric(s.below(20))%3, 1+s.below(4), oneOf(&s, 1, 2, 3, 5, 9, 20), oneOf(&s, 2, 10, 40))
		for range 100 {
			b.change(t, &s)
			b.want(t)
			b.ask(t, &s)
			b.ask(t, &s)
			if t.Failed() {
				t.Fatalf("seed %d", seed)
			}
		}
	}
}

func TestGreatIndexesAreAsTheSlowOneTells(t *testing.T) {
	for seed := range source(4) {
		s := seed
		b := newBoth(api.Metric(s.below(2)), 2+s.below(7), 4+s.below(30), 300)
		for range 350 {
			b.change(t, &s)
			b.ask(t, &s)
			if t.Failed() {
				t.Fatalf("seed %d", seed)
			}
		}
		b.want(t)
	}
}
