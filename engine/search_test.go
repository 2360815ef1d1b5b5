package engine

import (
	"math"
	"slices"
	"strings"
	"testing"

	"lodestar/api"
	"lodestar/hnsw"
)

// P15.1: Search

func TestErrorsOfSearch(t *testing.T) {
	for _, c := range []api.Conf{flatConf("a"), graphConf("a")} {
		r := newRig(t)
		r.ok(create(c))
		r.want(write("a", put(1, 0), put(2, 3)), version(1))
		ask := func(k, width uint16, vec []int32, none ...string) api.Message {
			return api.Message{Kind: api.Search, Name: "a", K: k, Width: width, Vec: vec, Filter: api.Filter{None: none}}
		}
		good := []int32{1}
		hits := []api.Hit{hit(1, 1), hit(4, 2)}
		r.want(ask(1, 0, good), found(1, hits[0]))
		for _, k := range []uint16{2, 9, api.MaxK - 1, api.MaxK} {
			r.asks(ask(k, 0, good), found(1, hits...))
			r.asks(ask(k, 9, good, "t", "u"), found(1, hits...))
			r.asks(ask(k, api.MaxWidth-1, good), found(1, hits...))
			r.asks(ask(k, api.MaxWidth, good), found(1, hits...))
		}
		bad := [][]int32{good, {}, {1, 1}, {1<<20 + 1}, {math.MinInt32}}
		for _, vec := range bad {
			for _, k := range []uint16{0, api.MaxK + 1, 256, 257, math.MaxUint16} {
				r.fails(ask(k, 0, vec), api.ErrArg)
				r.fails(ask(k, api.MaxWidth+1, vec, ""), api.ErrArg)
			}
			for _, width := range []uint16{api.MaxWidth + 1, 512, math.MaxUint16} {
				r.fails(ask(1, width, vec), api.ErrArg)
				r.fails(ask(1, width, vec, ""), api.ErrArg)
			}
		}
		for _, none := range [][]string{nil, {""}, {strings.Repeat("t", api.MaxTag+1)}} {
			r.fails(ask(1, 0, nil, none...), api.ErrDim)
			r.fails(ask(1, 0, []int32{1, 1 << 21}, none...), api.ErrDim)
			r.fails(ask(1, api.MaxWidth, []int32{1 << 21}, none...), api.ErrPart)
			if none != nil {
				r.fails(ask(1, 0, good, none...), api.ErrTag)
			}
		}
	}
}

func TestErrorsOfSearchOfNoCollection(t *testing.T) {
	r := newRig(t)
	r.ok(create(flatConf("a")))
	for _, name := range []string{"", "b", "aa"} {
		for _, x := range []api.Message{search(name, 1, 1), search(name, 0, 1), search(name, 1), search(name, 33)} {
			r.fails(x, api.ErrNone)
			x.Width, x.Filter.All = 257, []string{""}
			r.fails(x, api.ErrNone)
		}
	}
}

func TestSearchByLookingAtEverything(t *testing.T) {
	r := newRig(t)
	r.ok(create(flatConf("a")), create(api.Conf{Name: "m", Dim: 2, Metric: api.Minus}))
	r.asks(search("a", 9, 1), found(0))
	v := r.fill("a", 40, 1)
	r.want(write("m", api.Change{Item: api.Item{Id: 4, Vec: []int32{2, 3}}}, api.Change{Item: api.Item{Id: 6, Vec: []int32{-1, 9}}}), version(v+1))
	var all []api.Hit
	for n := range uint32(40) {
		all = append(all, hit(int64(n)*int64(n), 40-n))
	}
	for _, k := range []uint16{1, 2, 31, 32} {
		for _, width := range []uint16{0, 1, 256} {
			x := search("a", k, 40)
			x.Width = width
			r.asks(x, found(v+1, all[:k]...))
		}
	}
	r.asks(search("m", 9, 10, 1), found(v+1, hit(-23, 4), hit(1, 6)))
	r.asks(search("m", 1, 1, 10), found(v+1, hit(-89, 6)))
}

func TestSearchWithAFilter(t *testing.T) {
	for _, c := range []api.Conf{flatConf("a"), graphConf("a")} {
		r := newRig(t)
		r.ok(create(c))
		r.want(write("a", put(1, 1, "s"), put(2, 2, "s", "t"), put(3, 3, "t"), put(4, 4)), version(1))
		r.makeIndex("a")
		for _, x := range []struct {
			f   api.Filter
			ids []uint32
		}{
			{api.Filter{}, []uint32{1, 2, 3, 4}},
			{api.Filter{All: []string{"s"}}, []uint32{1, 2}},
			{api.Filter{All: []string{"s"}, None: []string{"t"}}, []uint32{1}},
			{api.Filter{Any: []string{"t", "u"}}, []uint32{2, 3}},
			{api.Filter{None: []string{"s", "t"}}, []uint32{4}},
			{api.Filter{All: []string{"u"}}, nil},
		} {
			var want []api.Hit
			for _, id := range x.ids {
				want = append(want, hit(int64(id)*int64(id), id))
			}
			ask := search("a", 9, 0)
			ask.Filter = x.f
			r.asks(ask, found(1, want...))
		}
	}
}

func TestSearchIsOfWhatIsThereNow(t *testing.T) {
	for _, c := range []api.Conf{flatConf("a"), graphConf("a")} {
		r := newRig(t, 1, 0)
		r.ok(create(c), create(flatConf("b")))
		r.want(search("a", 9, 0), found(0))
		r.want(write("a", put(1, 1), put(2, 2)), version(1))
		r.asks(search("a", 9, 0), found(1, hit(1, 1), hit(4, 2)))
		r.want(write("b", put(7, 7)), version(2))
		r.asks(search("a", 9, 0), found(2, hit(1, 1), hit(4, 2)))
		r.want(write("a", put(1, 3), gone(2), put(4, 4), put(4, 5)), version(3))
		r.asks(search("a", 9, 0), found(3, hit(9, 1), hit(25, 4)))
		r.want(write("a", gone(1), gone(4)), version(4))
		r.asks(search("a", 9, 0), found(4))
	}
}

// askWith gives a search of "g" with a width.
func askWith(k, width uint16, vec []int32) api.Message {
	x := search("g", k, vec...)
	x.Width = width
	return x
}

func TestSearchByAnIndexWithAWidth(t *testing.T) {
	c := api.Conf{Name: "g", Dim: 2, Graph: true, Links: 1, Width: 3}
	r := newRig(t, 0, 1)
	r.ok(create(c))
	x := hnsw.New(c.Metric, 1, 3)
	r.do(7, 0, search("g", 1, 0, 0))
	d := dice(5)
	for n := range uint32(100) {
		y := api.Item{Id: n%70 + 1, Vec: []int32{int32(d.upTo(100)), int32(d.upTo(100))}}
		r.want(write("g", api.Change{Item: y}), version(uint64(n+1)))
		x.Put(y, int(n%2), uint64(n+1))
	}
	r.nodes("g", x)
	differ := map[uint16]int{}
	for range 100 {
		q := []int32{int32(d.upTo(100)), int32(d.upTo(100))}
		k := uint16(1 + d.upTo(4))
		byConf := x.Search(q, api.Filter{}, int(k), 3, 100)
		for _, width := range []uint16{0, 1, 2, 3, 4, 20, 256} {
			hits := byConf
			if width != 0 {
				hits = x.Search(q, api.Filter{}, int(k), int(width), 100)
			}
			r.asks(askWith(k, width, q), found(100, hits...))
			if !slices.Equal(hits, byConf) {
				differ[width]++
			}
		}
	}
	if differ[0] != 0 || differ[1] == 0 || differ[4] == 0 || differ[256] == 0 {
		t.Errorf("how often a width finds other hits than the conf's: %v", differ)
	}
}

func TestSearchByAnIndexIsOfK(t *testing.T) {
	r := newRig(t, 0, 1)
	r.ok(create(graphConf("g")))
	v := r.fill("g", 60, 1)
	var all []api.Hit
	for n := range uint32(60) {
		all = append(all, hit(int64(n+1)*int64(n+1), n+1))
	}
	for k := uint16(1); k <= api.MaxK; k++ {
		r.do(7, 0, search("g", k, 0))
		r.asks(askWith(k, 256, []int32{0}), found(v, all[:k]...))
	}
}
