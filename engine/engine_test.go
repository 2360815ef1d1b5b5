package engine

import (
	"math"
	"slices"
	"strings"
	"testing"

	"lodestar/api"
)

// P15.1: New, and the rows of the table without searches, cursors and uploads

func TestAnEngineWithoutAnything(t *testing.T) {
	r := newRig(t, 1, 2)
	r.has(0, 0, 0)
	r.e.Leave(0)
	r.e.Leave(7)
	r.e.Tick(0)
	r.e.Tick(math.MaxUint32)
	r.has(0, 0, 0)
	if r.e.Done() != 0 || len(r.e.Names()) != 0 {
		t.Error(r.e.Done(), r.e.Names())
	}
	for _, name := range []string{"", "a", "nameofmorethan16b"} {
		r.items(name)
		r.nodes(name, nil)
	}
	r.asks(list(), api.Message{})
	for _, x := range []struct {
		ask api.Message
		why api.Errno
	}{
		{api.Message{Kind: api.Create}, api.ErrArg},
		{drop("a"), api.ErrNone},
		{write("a"), api.ErrNone},
		{get("a", 1), api.ErrNone},
		{search("a", 1, 1), api.ErrNone},
		{open("a", 1), api.ErrNone},
		{fetch(1, 1, 1), api.ErrCursor},
		{closing(1), api.ErrCursor},
		{staging("a"), api.ErrNone},
		{chunk(1, 1, nil), api.ErrStage},
		{commit(1), api.ErrStage},
		{abort(1), api.ErrStage},
	} {
		r.fails(x.ask, x.why)
	}
}

func TestMessagesThatAreNoRequests(t *testing.T) {
	r := newRig(t)
	r.ok(create(flatConf("a")))
	many := 0
	for kind := range 256 {
		if x := (api.Message{Kind: byte(kind), Name: "a", Vec: []int32{1}, K: 1, Num: 1, Page: 1}); !isRequest(x.Kind) {
			r.fails(x, api.ErrKind)
			many++
		}
	}
	if many != 243 || r.e.Done() != 1 {
		t.Errorf("%d kinds, %d requests done", many, r.e.Done())
	}
}

func TestCreate(t *testing.T) {
	r := newRig(t)
	r.ok(create(flatConf("b")), create(graphConf("a")))
	for _, name := range []string{"a", "b", "c"} {
		bad := []api.Conf{{Name: name}, {Name: name, Dim: 17}, {Name: name, Dim: 1, Metric: 2}, {Name: name, Dim: 1, Links: 1}, {Name: name, Dim: 1, Graph: true, Links: 2}}
		for _, c := range bad {
			r.fails(create(c), api.ErrArg)
		}
	}
	r.fails(create(flatConf("")), api.ErrArg)
	r.fails(create(flatConf(strings.Repeat("n", api.MaxName+1))), api.ErrArg)
	r.fails(create(graphConf("b")), api.ErrThere)
	r.fails(create(flatConf("a")), api.ErrThere)
	for _, name := range []string{"c", "d", "e", "f", "g", strings.Repeat("n", api.MaxName)} {
		r.ok(create(flatConf(name)))
	}
	r.fails(create(flatConf("a")), api.ErrThere)
	r.fails(create(flatConf("h")), api.ErrFull)
	r.fails(create(api.Conf{Name: "h"}), api.ErrArg)
	r.ok(drop("c"), create(graphConf("h")))
	r.fails(create(flatConf("c")), api.ErrFull)
}

func TestDrop(t *testing.T) {
	r := newRig(t)
	r.fails(drop("a"), api.ErrNone)
	r.ok(create(flatConf("a")), create(flatConf("b")))
	r.want(write("a", put(1, 1)), version(1))
	r.ok(drop("a"))
	r.fails(drop("a"), api.ErrNone)
	r.fails(drop(""), api.ErrNone)
	r.fails(write("a"), api.ErrNone)
	r.fails(get("a", 1), api.ErrNone)
	r.fails(search("a", 1, 1), api.ErrNone)
	r.fails(open("a", 1), api.ErrNone)
	r.fails(staging("a"), api.ErrNone)
	r.items("a")
	r.ok(create(flatConf("a")))
	r.items("a")
	r.fails(get("a", 1), api.ErrNone)
	r.want(write("a", put(1, 2)), version(2))
	r.asks(get("a", 1), api.Message{Items: []api.Item{item(1, 2)}})
}

func TestList(t *testing.T) {
	r := newRig(t)
	r.asks(list(), api.Message{})
	for _, name := range []string{"b", "c", "B", "ba", "a"} {
		r.ok(create(flatConf(name)))
	}
	names := []string{"B", "a", "b", "ba", "c"}
	r.asks(list(), api.Message{Names: names})
	if !slices.Equal(r.e.Names(), names) {
		t.Error(r.e.Names())
	}
	r.ok(drop("b"))
	r.asks(list(), api.Message{Names: []string{"B", "a", "ba", "c"}})
}

func TestWrite(t *testing.T) {
	for _, c := range []api.Conf{flatConf("a"), graphConf("a")} {
		r := newRig(t)
		r.ok(create(c))
		r.want(write("a"), version(0))
		r.want(write("a", put(1, 0), put(2, 3, "s", "t")), version(1))
		r.items("a", item(1, 0), item(2, 3, "s", "t"))
		r.want(write("a", put(2, 4), gone(1), put(9, 9), put(9, 8)), version(2))
		r.items("a", item(2, 4), item(9, 8))
		r.want(write("a"), version(2))
		r.ok(create(flatConf("b")))
		r.want(write("b", put(2, 5)), version(3))
		r.items("a", item(2, 4), item(9, 8))
		r.items("b", item(2, 5))
		r.fails(write("c", put(2, 5)), api.ErrNone)
	}
}

func TestWriteOfAsManyAsMayBe(t *testing.T) {
	r := newRig(t)
	r.ok(create(flatConf("a")))
	r.want(write("a", put(1, 0)), version(1))
	var l []api.Change
	for id := range uint32(api.MaxBatch) {
		l = append(l, put(10+id, 1))
	}
	r.want(write("a", l...), version(2))
	r.fails(write("a", append(l, put(1, 1))...), api.ErrLong)
	r.fails(write("a", append(l, api.Change{})...), api.ErrLong)
	r.fails(write("b", append(l, put(1, 1))...), api.ErrLong)
	r.fails(write("b", l...), api.ErrNone)
	r.fails(write("", make([]api.Change, 200)...), api.ErrLong)
	r.fails(write("a", make([]api.Change, api.MaxBatch)...), api.ErrArg)
}

func TestErrorsOfWrite(t *testing.T) {
	for _, c := range []api.Conf{flatConf("a"), graphConf("a")} {
		r := newRig(t)
		r.ok(create(c))
		r.want(write("a", put(1, 0)), version(1))
		if c.Graph {
			r.makeIndex("a")
		}
		for _, x := range []struct {
			change api.Change
			why    api.Errno
		}{
			{put(0, 1), api.ErrArg},
			{gone(0), api.ErrArg},
			{gone(3), api.ErrNone},
			{api.Change{Item: api.Item{Id: 3}}, api.ErrDim},
			{api.Change{Item: api.Item{Id: 3, Vec: []int32{1, 1}}}, api.ErrDim},
			{put(3, 1<<20+1), api.ErrPart},
			{put(3, 1, "b", "a"), api.ErrTag},
			{put(3, 1, ""), api.ErrTag},
		} {
			r.fails(write("a", x.change), x.why)
			r.fails(write("a", put(2, 2), gone(1), x.change, gone(77)), x.why)
			r.fails(write("b", x.change), api.ErrNone)
		}
		r.want(write("a", gone(1)), version(2))
	}
}

func TestWriteOfMoreItemsThanMayBe(t *testing.T) {
	for _, c := range []api.Conf{flatConf("a"), graphConf("a")} {
		r := newRig(t)
		r.ok(create(c))
		v := r.fill("a", api.MaxItems, 1)
		r.makeIndex("a")
		r.fails(write("a", put(500, 1)), api.ErrFull)
		r.want(write("a", put(500, 1), gone(7)), version(v+1))
		r.fails(write("a", put(7, 1)), api.ErrFull)
		if len(r.e.Items("a")) != api.MaxItems {
			t.Error(len(r.e.Items("a")))
		}
	}
}

func TestWriteOfMoreRowsThanMayBe(t *testing.T) {
	for _, c := range []api.Conf{flatConf("a"), graphConf("a")} {
		r := newRig(t)
		r.ok(create(c))
		v := r.fill("a", api.MaxItems, 1)
		r.makeIndex("a")
		// Each cursor keeps a row of each item, and beside them there is what is now.
		for n := uint32(1); n < api.MaxRows/api.MaxItems; n++ {
			r.want(open("a", 1), opened(n, v))
			v = r.fill("a", api.MaxItems, v+1)
		}
		r.want(open("a", 1), opened(8, v))
		r.fails(write("a", put(1, 7)), api.ErrFull)
		r.want(write("a"), version(v))
		r.ok(closing(3))
		r.want(write("a", put(1, 7)), version(v+1))
	}
}

func TestGet(t *testing.T) {
	for _, c := range []api.Conf{flatConf("a"), graphConf("a")} {
		r := newRig(t)
		r.ok(create(c))
		r.want(write("a", put(1, 5, "s", "t"), put(math.MaxUint32, 6)), version(1))
		r.asks(get("a", 1), api.Message{Items: []api.Item{item(1, 5, "s", "t")}})
		r.asks(get("a", math.MaxUint32), api.Message{Items: []api.Item{item(math.MaxUint32, 6)}})
		r.fails(get("a", 0), api.ErrNone)
		r.fails(get("a", 2), api.ErrNone)
		r.fails(get("b", 1), api.ErrNone)
		r.want(write("a", gone(1), put(2, 7)), version(2))
		r.fails(get("a", 1), api.ErrNone)
		r.asks(get("a", 2), api.Message{Items: []api.Item{item(2, 7)}})
	}
}

// P15.2

func TestEachRequestIsCountedWhateverComesOfIt(t *testing.T) {
	r := newRig(t)
	asks := []api.Message{
		create(flatConf("a")), create(flatConf("a")), list(), write("a", put(1, 1)), write("a", gone(7)), get("a", 1), get("a", 2), search("a", 1, 1),
		search("a", 0, 1), open("a", 1), open("b", 1), fetch(1, 1, 1), fetch(1, 9, 1), closing(1), closing(1), staging("a"), staging("b"),
		chunk(1, 1, bytesOf()), chunk(9, 1, nil), commit(1), commit(1), staging("a"), abort(2), abort(2), drop("a"), drop("a"),
	}
	for i, x := range asks {
		if r.e.Done() != uint64(i) {
			t.Fatalf("%d requests done; want %d", r.e.Done(), i)
		}
		r.e.Do(uint64(i%2*7), uint32(i), x)
	}
	for _, kind := range []byte{0, api.Hello, api.Acked, api.Answer, api.Answer + 1, 255} {
		r.e.Do(7, 0, api.Message{Kind: kind})
	}
	r.e.Leave(7)
	r.e.Tick(9)
	if r.e.Done() != uint64(len(asks)) {
		t.Errorf("%d requests done; want %d", r.e.Done(), len(asks))
	}
}

func TestItems(t *testing.T) {
	r := newRig(t)
	r.ok(create(graphConf("a")), create(flatConf("b")))
	r.items("a")
	r.want(write("a", put(9, 1), put(3, 2, "t"), put(math.MaxUint32, 3), put(4, 4)), version(1))
	r.want(write("b", put(3, 7)), version(2))
	for range 3 {
		r.items("a", item(3, 2, "t"), item(4, 4), item(9, 1), item(math.MaxUint32, 3))
		r.items("b", item(3, 7))
		r.items("c")
		r.has(0, 0, 0)
	}
	r.want(write("a", gone(4), put(3, 5)), version(3))
	r.items("a", item(3, 5), item(9, 1), item(math.MaxUint32, 3))
}

// The chapter's examples

func TestTheExamples(t *testing.T) {
	for _, c := range []api.Conf{flatConf("a"), graphConf("a")} {
		r := newRig(t)
		r.ok(create(c))
		r.want(write("a", put(1, 0), put(2, 3)), version(1))
		r.want(open("a", 1), opened(1, 1))
		r.want(write("a", gone(1)), version(2))
		r.want(fetch(1, 1, 9), paged(1, hit(1, 1), hit(4, 2)))
		r.want(search("a", 9, 1), found(2, hit(4, 2)))
	}
}
