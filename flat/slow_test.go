package flat

import (
	"cmp"
	"math"
	"slices"
	"testing"

	"lodestar/api"
)

// order is the chapter's: nearer first, and of those equally far the one of the lesser Id.
func order(a, b api.Hit) int {
	return cmp.Or(cmp.Compare(a.Dist, b.Dist), cmp.Compare(a.Id, b.Id))
}

// slowDist finds what fixvec.Dist does, word by word.
func slowDist(m api.Metric, a, b []int32) (int64, bool) {
	if m > 1 || len(a) != len(b) || len(a) < 1 || len(a) > 16 {
		return 0, false
	}
	var sum int64
	for i := range a {
		x, y := int64(a[i]), int64(b[i])
		if max(x, -x, y, -y) > 1<<20 {
			return 0, false
		}
		if m == 0 {
			sum += (x - y) * (x - y)
		} else {
			sum -= x * y
		}
	}
	return sum, true
}

// slowMatch finds what tags.Match does, by counting.
func slowMatch(f api.Filter, l []string) bool {
	there := func(wanted []string) int {
		n := 0
		for _, tag := range wanted {
			if slices.Contains(l, tag) {
				n++
			}
		}
		return n
	}
	return there(f.All) == len(f.All) && there(f.None) == 0 && (len(f.Any) == 0 || there(f.Any) > 0)
}

// slowRank sorts all hits of what is wanted.
func slowRank(m api.Metric, l []api.Item, q []int32, f api.Filter) []api.Hit {
	var hits []api.Hit
	for _, x := range l {
		if dist, ok := slowDist(m, q, x.Vec); ok && slowMatch(f, x.Tags) {
			hits = append(hits, hit(dist, x.Id))
		}
	}
	slices.SortFunc(hits, order)
	return hits
}

// slowAfter gives the first k of slowRank's that last is less than.
func slowAfter(m api.Metric, l []api.Item, q []int32, f api.Filter, last api.Hit, k int) []api.Hit {
	hits := slices.DeleteFunc(slowRank(m, l, q, f), func(h api.Hit) bool { return order(last, h) >= 0 })
	return first(hits, k)
}

// source gives numbers from a fixed sequence.
type source uint32

func (s *source) below(n int) int {
	*s = *s*1664525 + 1013904223
	return int(*s>>8) % n
}

// vec gives a vector, often one of two parts, now and then one that may not be.
func (s *source) vec() []int32 {
	n := 2
	if s.below(6) == 0 {
		n = []int{0, 1, 3, 16, 17}[s.below(5)]
	}
	v := make([]int32, n)
	for i := range v {
		v[i] = int32(s.below(7) - 3)
		if s.below(12) == 0 {
			v[i] = []int32{1 << 20, -1 << 20, 1<<20 + 1, -1<<20 - 1, math.MaxInt32, math.MinInt32}[s.below(6)]
		}
	}
	return v
}

// tags gives some tags, in whatever order, some of them perhaps twice.
func (s *source) tags(most int) []string {
	var l []string
	for range s.below(most + 1) {
		l = append(l, []string{"a", "b", "c", "d", ""}[s.below(5)])
	}
	return l
}

func (s *source) items(n int) []api.Item {
	var l []api.Item
	for range n {
		l = append(l, api.Item{Id: uint32(s.below(n)), Vec: s.vec(), Tags: s.tags(4)})
	}
	return l
}

func TestAllIsAsTheSlowOneTells(t *testing.T) {
	s := source(1)
	for i := range 6000 {
		l := s.items([]int{1, 3, 8, 20, 60}[s.below(5)])
		if i%100 == 0 {
			l = s.items(900)
		}
		wantAsSlow(t, &s, l)
	}
}

// wantAsSlow asks all three calls for something of l.
func wantAsSlow(t *testing.T, s *source, l []api.Item) {
	t.Helper()
	m := api.Metric(s.below(20)) % 3
	q := s.vec()
	f := api.Filter{All: s.tags(1), Any: s.tags(2), None: s.tags(1)}
	hits := slowRank(m, l, q, f)
	wantRank(t, m, l, q, f, hits...)
	k := asked(len(hits))[s.below(len(asked(0)))]
	if got := Search(m, l, q, f, k); !slices.Equal(got, first(hits, k)) {
		t.Fatalf("Search(%d, %v, %v, %q, %d) is %v, not %v", m, l, q, f, k, got, first(hits, k))
	}
	last := hit(int64(s.below(30)-9), uint32(s.below(20)))
	if len(hits) > 0 && s.below(2) == 0 {
		last = hits[s.below(len(hits))]
	}
	want := slowAfter(m, l, q, f, last, k)
	if got := After(m, l, q, f, last, k); !slices.Equal(got, want) {
		t.Fatalf("After(%d, %v, %v, %q, %v, %d) is %v, not %v", m, l, q, f, last, k, got, want)
	}
}
