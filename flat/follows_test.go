package flat

import (
	"math"
	"slices"
	"testing"

	"lodestar/api"
)

// P10.4

// pages gives what Search tells, and then After the last one again and again, until nothing comes.
func pages(t *testing.T, m api.Metric, l []api.Item, q []int32, f api.Filter, k int) []api.Hit {
	t.Helper()
	var all []api.Hit
	page := Search(m, l, q, f, k)
	for len(page) > 0 {
		if len(page) > k || len(page) > 256 {
			t.Errorf("k %d: a page of %d hits", k, len(page))
		}
		all = append(all, page...)
		if len(all) > len(l) {
			t.Fatalf("k %d: more hits than there are items", k)
		}
		page = After(m, l, q, f, all[len(all)-1], k)
	}
	return all
}

// scattered gives n items of two parts and some tags from a fixed sequence, each of an Id of its own, many equally far.
func scattered(n int, s source) []api.Item {
	l := make([]api.Item, n)
	for i := range l {
		l[i] = item(uint32(i)*2654435761, int32(s.below(9)-4), int32(s.below(9)-4))
		l[i].Tags = picked(s.below(16))
	}
	return l
}

// someFilters gives filters of which some want more than others.
func someFilters() []api.Filter {
	return []api.Filter{
		{}, {All: []string{"a"}}, {Any: []string{"a", "b"}}, {None: []string{"c"}},
		{All: []string{"a"}, Any: []string{"b", "c"}, None: []string{"d"}}, {All: []string{"e"}},
	}
}

func TestPageByPage(t *testing.T) {
	for _, n := range []int{0, 1, 2, 5, 60, 257, 700} {
		l := scattered(n, source(n))
		q := []int32{1, -1}
		for _, f := range someFilters() {
			for _, m := range []api.Metric{api.Square, api.Minus} {
				want := Rank(m, l, q, f)
				for _, k := range []int{1, 2, 3, 7, 59, 60, 61, 255, 256, 257, 1000, math.MaxInt} {
					if got := pages(t, m, l, q, f, k); !slices.Equal(got, want) {
						t.Errorf("%d items, metric %d, filter %q, k %d: %d hits, not the %d of Rank", n, m, f, k, len(got), len(want))
					}
				}
			}
		}
	}
}

func TestPagesAreInOrderEachIdOnce(t *testing.T) {
	l := scattered(600, 4)
	for _, k := range []int{1, 10, 256, 400} {
		met := map[uint32]bool{}
		got := pages(t, api.Square, l, []int32{0, 0}, api.Filter{}, k)
		for i, h := range got {
			if met[h.Id] {
				t.Errorf("k %d: %d is told twice", k, h.Id)
			}
			met[h.Id] = true
			if i > 0 && order(got[i-1], h) >= 0 {
				t.Errorf("k %d: %v stands ahead of %v", k, got[i-1], h)
			}
		}
		if len(got) != 600 {
			t.Errorf("k %d: %d hits", k, len(got))
		}
	}
}

func TestInWhatOrderItemsStandMakesNoDifference(t *testing.T) {
	l := []api.Item{tagged(3, 2), tagged(1, 0, "a"), tagged(9, 4), item(2, 1, 1), tagged(9, 4, "b"), tagged(5, 2)}
	q := []int32{1}
	last := hit(1, 3)
	s := source(2)
	for _, f := range []api.Filter{{}, {None: []string{"a"}}} {
		all := slowRank(api.Square, l, q, f)
		behind := all[slices.Index(all, last)+1:]
		for range 1000 {
			i, j := s.below(len(l)), s.below(len(l))
			l[i], l[j] = l[j], l[i]
			wantRank(t, api.Square, l, q, f, all...)
			k := s.below(8)
			if got := Search(api.Square, l, q, f, k); !slices.Equal(got, first(all, k)) {
				t.Errorf("Search of %v, k %d: %v", l, k, got)
			}
			if got := After(api.Square, l, q, f, last, k); !slices.Equal(got, first(behind, k)) {
				t.Errorf("After of %v, k %d: %v", l, k, got)
			}
		}
	}
}

func TestInWhatOrderManyItemsStandMakesNoDifference(t *testing.T) {
	l := scattered(400, 8)
	q, f := []int32{2, 1}, api.Filter{Any: []string{"a", "b"}}
	all := Rank(api.Square, l, q, f)
	some := Search(api.Square, l, q, f, 50)
	next := After(api.Square, l, q, f, some[49], 50)
	for i := range 40 {
		moved := slices.Concat(l[i*10:], l[:i*10])
		for _, l := range [][]api.Item{moved, turned(moved)} {
			wantRank(t, api.Square, l, q, f, all...)
			if got := Search(api.Square, l, q, f, 50); !slices.Equal(got, some) {
				t.Errorf("moved by %d: %v", i*10, got)
			}
			if got := After(api.Square, l, q, f, some[49], 50); !slices.Equal(got, next) {
				t.Errorf("moved by %d: %v", i*10, got)
			}
		}
	}
}

// picked gives those of four tags whose bits are set.
func picked(bits int) []string {
	var l []string
	for i, tag := range []string{"a", "b", "c", "d"} {
		if bits>>i&1 == 1 {
			l = append(l, tag)
		}
	}
	return l
}

func TestAFilterThatWantsMoreFindsNoFewer(t *testing.T) {
	l := scattered(40, 6)
	q := []int32{0, 1}
	for all := range 16 {
		for any := range 16 {
			for none := range 16 {
				less := api.Filter{All: picked(all), Any: picked(any), None: picked(none)}
				for i := range 4 {
					// Less must be there, less must be missing, or more will do.
					wantNoFewer(t, l, q, less, api.Filter{All: picked(all &^ (1 << i)), Any: less.Any, None: less.None})
					wantNoFewer(t, l, q, less, api.Filter{All: less.All, Any: less.Any, None: picked(none &^ (1 << i))})
					if any > 0 {
						wantNoFewer(t, l, q, less, api.Filter{All: less.All, Any: picked(any | 1<<i), None: less.None})
					}
				}
				wantNoFewer(t, l, q, less, api.Filter{All: less.All, None: less.None})
				wantNoFewer(t, l, q, less, api.Filter{})
			}
		}
	}
}

// wantNoFewer fails the test unless the filter more finds all that less does, and of the first few no fewer.
func wantNoFewer(t *testing.T, l []api.Item, q []int32, less, more api.Filter) {
	t.Helper()
	found := Rank(api.Square, l, q, more)
	i := 0
	for _, h := range Rank(api.Square, l, q, less) {
		for i < len(found) && found[i] != h {
			i++
		}
		if i == len(found) {
			t.Fatalf("%q finds %v, %q doesn't", less, h, more)
		}
	}
	last := hit(5, 0)
	if len(Search(api.Square, l, q, more, 5)) < len(Search(api.Square, l, q, less, 5)) {
		t.Errorf("of the first 5 %q finds fewer than %q", more, less)
	}
	if len(After(api.Square, l, q, more, last, 5)) < len(After(api.Square, l, q, less, last, 5)) {
		t.Errorf("of the first 5 behind %v %q finds fewer than %q", last, more, less)
	}
}

// The rules that hold everywhere

// handed is all that a call is handed, with spare room in each list.
type handed struct {
	l []api.Item
	q []int32
	f api.Filter
}

func newHanded() handed {
	vec := func(x int32) []int32 { return []int32{x, 77, 78}[:1] }
	tags := func(l ...string) []string { return append(l, "spare", "")[:len(l)] }
	items := []api.Item{
		{Id: 4, Vec: vec(5), Tags: tags("a", "b")}, {Id: 2, Vec: vec(0), Tags: tags("b")},
		{Id: 9, Vec: vec(2), Tags: tags("b", "a")}, {Id: 1, Vec: vec(1<<20 + 1), Tags: tags()},
		{Id: 3, Vec: vec(2), Tags: tags("a", "b", "d")}, {Id: 2, Vec: vec(0), Tags: tags("b", "c")},
		{Id: 77, Vec: vec(1), Tags: tags("a", "b")},
	}
	return handed{
		l: items[:6],
		q: vec(1),
		f: api.Filter{All: tags("b", "a"), Any: tags("c", "a"), None: tags("e", "d")},
	}
}

// whole gives a list with its spare room.
func whole[T any](l []T) []T {
	return l[:cap(l)]
}

// same tells whether a and b are alike, in their lists' spare room too.
func (a handed) same(b handed) bool {
	return slices.Equal(whole(a.q), whole(b.q)) &&
		slices.Equal(whole(a.f.All), whole(b.f.All)) && slices.Equal(whole(a.f.Any), whole(b.f.Any)) && slices.Equal(whole(a.f.None), whole(b.f.None)) &&
		slices.EqualFunc(whole(a.l), whole(b.l), func(x, y api.Item) bool {
			return x.Id == y.Id && slices.Equal(whole(x.Vec), whole(y.Vec)) && slices.Equal(whole(x.Tags), whole(y.Tags))
		})
}

// overwrite writes over all of it, and over the spare room.
func (a handed) overwrite() {
	fill(a.q, 1)
	for _, l := range [][]string{a.f.All, a.f.Any, a.f.None} {
		fill(l, "over")
	}
	for _, x := range whole(a.l) {
		fill(x.Vec, 1)
		fill(x.Tags, "over")
	}
	fill(a.l, api.Item{Id: 66})
}

// fill writes x over a list, and over its spare room.
func fill[T any](l []T, x T) {
	for i := range whole(l) {
		whole(l)[i] = x
	}
}

// calls gives the three calls, by their names.
func calls() map[string]func(a handed) []api.Hit {
	return map[string]func(a handed) []api.Hit{
		"Rank":      func(a handed) []api.Hit { return Rank(api.Square, a.l, a.q, a.f) },
		"Search":    func(a handed) []api.Hit { return Search(api.Square, a.l, a.q, a.f, 2) },
		"Search, 0": func(a handed) []api.Hit { return Search(api.Square, a.l, a.q, a.f, 0) },
		"After":     func(a handed) []api.Hit { return After(api.Square, a.l, a.q, a.f, hit(0, 0), 9) },
		"After, 2":  func(a handed) []api.Hit { return After(api.Minus, a.l, a.q, a.f, hit(-5, 4), 2) },
		"any":       func(a handed) []api.Hit { return Rank(api.Square, a.l, a.q, api.Filter{}) },
		"Minus":     func(a handed) []api.Hit { return Rank(api.Minus, a.l, a.q, api.Filter{None: a.f.Any}) },
		"no metric": func(a handed) []api.Hit { return Rank(9, a.l, a.q, a.f) },
	}
}

func TestWhatIsHandedInStaysAsItWas(t *testing.T) {
	for name, call := range calls() {
		a := newHanded()
		call(a)
		if !a.same(newHanded()) {
			t.Errorf("%s: it has become %v", name, a)
		}
	}
}

func TestWhatIsToldMayBeWrittenOver(t *testing.T) {
	over := hit(math.MinInt64, 77)
	for name, call := range calls() {
		a := newHanded()
		first, second := call(a), call(a)
		want := slices.Clone(first)
		fill(first, over)
		if !slices.Equal(second, want) {
			t.Errorf("%s: two answers share memory", name)
		}
		fill(append(second, over), over)
		if !a.same(newHanded()) {
			t.Errorf("%s: what is told shares memory with what is handed in", name)
		}
		for other, call := range calls() {
			if got, want := call(a), call(newHanded()); !slices.Equal(got, want) {
				t.Errorf("%s, and then %s: %v, not %v", name, other, got, want)
			}
		}
	}
}

func TestWhatIsToldStaysAsItWas(t *testing.T) {
	for name, call := range calls() {
		a := newHanded()
		told := call(a)
		want := slices.Clone(told)
		a.overwrite()
		for _, call := range calls() {
			call(a)
			call(newHanded())
		}
		if !slices.Equal(told, want) {
			t.Errorf("%s: %v has become %v", name, want, told)
		}
	}
}

func TestTheSameIsToldAgain(t *testing.T) {
	for name, call := range calls() {
		want := call(newHanded())
		for range 3 {
			if got := call(newHanded()); !slices.Equal(got, want) {
				t.Errorf("%s: %v, and then %v", name, want, got)
			}
		}
	}
}
