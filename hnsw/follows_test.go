package hnsw

import (
	"math"
	"slices"
	"testing"

	"lodestar/api"
	"lodestar/flat"
)

// P12.5

// thereOf gives the items of those nodes that are there at v.
func thereOf(x *Index, v uint64) []api.Item {
	var l []api.Item
	for _, n := range x.Nodes() {
		if thereAt(n, v) {
			l = append(l, n.Item)
		}
	}
	return l
}

// wantSound fails the test if what Search finds is too much, out of order, not there, not matched, or not as far as is told.
func wantSound(t *testing.T, x *Index, q []int32, f api.Filter, k, width int, v uint64) {
	t.Helper()
	l := x.Search(q, f, k, width, v)
	if len(l) > max(k, 0) || len(l) > api.MaxWidth {
		t.Errorf("%d of %d", len(l), k)
	}
	ranked := flat.Rank(x.metric, thereOf(x, v), q, f)
	last := -1
	told := map[uint32]bool{}
	for _, h := range l {
		i := slices.Index(ranked, h)
		if i <= last {
			t.Errorf("%v isn't among %v, or out of order", h, ranked)
		}
		last = i
		if told[h.Id] {
			t.Errorf("%d is told twice: %v", h.Id, l)
		}
		told[h.Id] = true
	}
}

// wantExact fails the test unless with a width of as many as there are nodes Search finds all that layer 10 does.
func wantExact(t *testing.T, x *Index, q []int32, f api.Filter, k int, v uint64) {
	t.Helper()
	want := flat.Search(x.metric, thereOf(x, v), q, f, k)
	for _, more := range []int{0, 1, 9, math.MaxInt - x.Len()} {
		wantSearch(t, x, q, f, k, x.Len()+more, v, want...)
	}
}

// doSome does something to x at the version v: items are put, of several levels, some are cut, and it is swept.
func doSome(x *Index, s *source, ids int, v uint64) {
	for range 12 {
		id := uint32(s.below(ids))
		switch s.below(10) {
		case 0, 1, 2:
			x.Cut(id, v)
		case 3:
			x.Sweep([]uint64{uint64(s.below(int(v) + 2)), uint64(s.below(int(v) + 2))}[:s.below(3)])
		default:
			x.Put(api.Item{Id: id, Vec: s.vec(), Tags: s.tags()}, s.level(), v)
		}
	}
}

func TestWhatFollows(t *testing.T) {
	for seed := range source(80) {
		s := seed
		x := New(api.Metric(s.below(2)), 1+s.below(8), oneOf(&s, 1, 2, 5, 9, 20, 256))
		for v := range uint64(20) {
			doSome(x, &s, 30, v+1)
			for range 6 {
				q, f, at := s.vec(), s.filter(), uint64(s.below(int(v)+3))
				k := oneOf(&s, 0, -1, 1, 2, 5, 30, 32, 256, 257, math.MinInt, math.MaxInt)
				wantSound(t, x, q, f, k, oneOf(&s, 0, -1, 1, 2, 3, 5, 9, 20, math.MinInt, math.MaxInt), at)
				wantExact(t, x, q, f, k, at)
			}
		}
		if t.Failed() {
			t.Fatalf("seed %d", seed)
		}
	}
}

func TestAsManyAsMaxWidthAreAllFound(t *testing.T) {
	s := source(11)
	x := New(api.Square, 1, 1)
	for i := range api.MaxWidth {
		x.Put(at(uint32(s.below(100)), s.vec()...), s.level(), uint64(i+1))
	}
	for range 60 {
		wantExact(t, x, s.vec(), s.filter(), oneOf(&s, 1, 9, 32, 256), uint64(s.below(300)))
	}
}

func TestFarAndNearAreFoundAllTheSame(t *testing.T) {
	x := New(api.Minus, 1, 1)
	for i := range 60 {
		x.Put(at(uint32(i), int32(i%7*1000), int32(i%11*-1000)), i%6, 1)
		if i%3 == 0 {
			x.Cut(uint32(i/2), 1)
		}
	}
	for _, swept := range []bool{false, true} {
		if swept && x.Sweep(nil) == 0 {
			t.Error("none went")
		}
		for i := range int32(40) {
			wantExact(t, x, []int32{i * 500, i * -700}, all, 60, 1)
		}
	}
}

// The rules that hold everywhere

// whole gives a list with its spare room.
func whole[T any](l []T) []T {
	return l[:cap(l)]
}

// fill writes x over a list, and over its spare room.
func fill[T any](l []T, x T) {
	for i := range whole(l) {
		whole(l)[i] = x
	}
}

// some gives an index of several levels, with nodes that are gone, behind a sweep.
func some() *Index {
	s := source(3)
	x := New(api.Square, 2, 4)
	for v := range uint64(3) {
		for i := range 12 {
			x.Put(api.Item{Id: uint32(s.below(15)), Vec: []int32{int32(s.below(30)), int32(i)}, Tags: []string{"a", "b"}}, i%3, v+1)
		}
		x.Sweep([]uint64{v + 1})
	}
	x.Cut(4, 4)
	return x
}

// wantAsSome fails the test unless x is as some gives it, and tells the same, now and when more is done.
func wantAsSome(t *testing.T, x *Index) {
	t.Helper()
	want := some()
	for step := range 3 {
		wantSame(t, x, want)
		q, f := []int32{7, 3}, api.Filter{None: []string{"z"}}
		for _, k := range []int{1, 3, 20} {
			for v := range uint64(7) {
				wantSearch(t, x, q, f, k, k/2, v, want.Search(q, f, k, k/2, v)...)
			}
		}
		for _, x := range []*Index{x, want} {
			x.Put(api.Item{Id: uint32(step), Vec: []int32{3, 3}, Tags: []string{"c"}}, step, 5)
			x.Cut(7, 5)
			if step == 1 {
				x.Sweep([]uint64{3})
			}
		}
	}
}

func TestTheSameIsToldOfWhatTheSameWasDoneTo(t *testing.T) {
	for range 3 {
		wantAsSome(t, some())
	}
}

func TestWhatIsHandedInMayBeWrittenOver(t *testing.T) {
	for level := range 3 {
		x, want := some(), some()
		vecs, tags := []int32{1, 2, 3, 4}, []string{"a", "b", "c", "d"}
		x.Put(api.Item{Id: 1, Vec: vecs[1:3], Tags: tags[1:2]}, level, 9)
		want.Put(api.Item{Id: 1, Vec: []int32{2, 3}, Tags: []string{"b"}}, level, 9)
		if !slices.Equal(vecs, []int32{1, 2, 3, 4}) || !slices.Equal(tags, []string{"a", "b", "c", "d"}) {
			t.Error("Put writes over", vecs, tags)
		}
		fill(vecs, 99)
		fill(tags, "z")
		wantSame(t, x, want)
		keep := []uint64{9, 3, 9, 1}
		want.Sweep([]uint64{9, 3})
		x.Sweep(keep[:2])
		if !slices.Equal(keep, []uint64{9, 3, 9, 1}) {
			t.Error("Sweep writes over", keep)
		}
		fill(keep, 77)
		wantSame(t, x, want)
	}
}

func TestSearchLeavesWhatItIsHanded(t *testing.T) {
	x := some()
	q := []int32{1, 2, 3}
	l := []string{"b", "a", "c"}
	f := api.Filter{All: l[:2], Any: l[:1], None: l[2:2]}
	want := x.Search(q[:2], f, 9, 9, 4)
	if len(want) == 0 || !slices.Equal(q, []int32{1, 2, 3}) || !slices.Equal(l, []string{"b", "a", "c"}) {
		t.Error(want, q, l)
	}
	fill(q, 9)
	fill(l, "z")
	wantAsSome(t, x)
}

func TestWhatIsToldMayBeWrittenOver(t *testing.T) {
	x := some()
	for range 2 {
		told, hits := x.Nodes(), x.Search([]int32{7, 3}, all, 9, 9, 4)
		again, same := x.Nodes(), x.Search([]int32{7, 3}, all, 9, 9, 4)
		for _, n := range told {
			fill(n.Item.Vec, 77)
			fill(n.Item.Tags, "over")
			for _, l := range n.Links {
				fill(l, -7)
			}
			fill(n.Links, []int{66})
		}
		fill(told, api.Node{})
		fill(hits, hit(-5, 5))
		wantNodes(t, x, x.Entry(), again...)
		wantSearch(t, x, []int32{7, 3}, all, 9, 9, 4, same...)
	}
	wantAsSome(t, x)
}

func TestWhatIsToldIsAsItWasWhateverComes(t *testing.T) {
	x := some()
	told, hits := x.Nodes(), x.Search([]int32{7, 3}, all, 9, 9, 4)
	for i := range 40 {
		x.Put(at(uint32(i%16), int32(i), 5), i%4, uint64(i+5))
		x.Cut(uint32(i%11), uint64(i+5))
		x.Sweep([]uint64{uint64(i)})
	}
	y := some()
	wantNodes(t, y, y.Entry(), told...)
	wantSearch(t, y, []int32{7, 3}, all, 9, 9, 4, hits...)
}
