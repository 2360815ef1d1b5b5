package engine

import (
	"slices"
	"testing"

	"lodestar/api"
	"lodestar/hnsw"
)

// P15.1: a collection's index

// putAll puts items into an index at v, with these levels in turn.
func putAll(x *hnsw.Index, v uint64, levels []int, l ...api.Item) *hnsw.Index {
	for i, y := range l {
		x.Put(y, levels[i%len(levels)], v)
	}
	return x
}

func TestNodesAheadOfTheFirstSearch(t *testing.T) {
	r := newRig(t, 1)
	r.ok(create(graphConf("g")), create(graphConf("h")), create(flatConf("f")))
	r.want(write("g", put(1, 1)), version(1))
	r.want(write("g", put(2, 5), gone(1)), version(2))
	r.want(write("f", put(3, 7)), version(3))
	r.do(7, 0, get("g", 2))
	r.do(7, 0, list())
	r.do(7, 0, open("g", 1))
	r.do(7, 0, fetch(1, 1, 9))
	r.do(7, 0, closing(1))
	r.upload(7, 1, "g", put(9, 9))
	r.want(commit(1), version(4))
	r.do(7, 0, create(graphConf("g")))
	r.makeIndex("f")
	r.makeIndex("h")
	for _, name := range []string{"f", "g", "h", "i", ""} {
		r.nodes(name, nil)
	}
	r.want(write("h", put(5, 5)), version(5))
	r.nodes("h", putAll(newIndex(), 5, []int{1}, item(5, 5)))
	r.nodes("g", nil)
	r.nodes("f", nil)
}

func TestSearchesThatFailMakeNoIndex(t *testing.T) {
	r := newRig(t, 1)
	r.ok(create(graphConf("g")))
	r.want(write("g", put(1, 1), put(2, 2)), version(1))
	bad := search("g", 1, 1)
	bad.Filter.Any = []string{""}
	wide := search("g", 1, 1)
	wide.Width = api.MaxWidth + 1
	for _, x := range []api.Message{bad, wide, search("g", 0, 1), search("g", 33, 1), search("g", 1), search("g", 1, 1, 1), search("g", 1, 1<<20+1), search("h", 1, 1)} {
		if a := r.do(7, 0, x); a.Code == 0 {
			t.Errorf("%+v: %+v", x, a)
		}
		r.nodes("g", nil)
	}
	// It would have been made otherwise of what was there then.
	r.want(write("g", gone(1), put(3, 3)), version(2))
	r.makeIndex("g")
	r.nodes("g", putAll(newIndex(), 2, []int{1}, item(2, 2), item(3, 3)))
}

func TestAnIndexIsMadeOfWhatIsThereByRisingIds(t *testing.T) {
	r := newRig(t, 0, 2)
	r.ok(create(graphConf("g")), create(flatConf("f")))
	r.want(write("g", put(9, 1), put(4, 8, "t"), put(6, 3)), version(1))
	r.want(write("g", put(5, 9), gone(6), put(9, 7)), version(2))
	r.want(write("f", put(1, 1)), version(3))
	before := told(r.e)
	r.want(search("g", 2, 8), found(3, hit(0, 4), hit(1, 5)))
	if before == told(r.e) {
		t.Error("no index was made")
	}
	x := putAll(newIndex(), 3, []int{0, 2}, item(4, 8, "t"), item(5, 9), item(9, 7))
	r.nodes("g", x)
	for range 3 {
		r.asks(search("g", 2, 8), found(3, hit(0, 4), hit(1, 5)))
		r.nodes("g", x)
	}
	r.want(write("f", put(1, 2)), version(4))
	r.makeIndex("g")
	r.nodes("g", x)
}

func TestAnIndexIsOfTheConfsNumbers(t *testing.T) {
	for _, c := range []api.Conf{
		{Name: "g", Dim: 2, Graph: true, Links: 1, Width: 1},
		{Name: "g", Dim: 2, Graph: true, Links: 8, Width: 256},
		{Name: "g", Dim: 2, Graph: true, Links: 2, Width: 3, Metric: api.Minus},
		{Name: "g", Dim: 2, Graph: true, Links: 3, Width: 2, Metric: api.Square},
	} {
		r := newRig(t, 0, 1)
		r.ok(create(c))
		x := hnsw.New(c.Metric, int(c.Links), int(c.Width))
		d := dice(3)
		var l []api.Item
		for id := range uint32(60) {
			y := api.Item{Id: id + 1, Vec: []int32{int32(d.upTo(100)), int32(d.upTo(100))}}
			r.want(write("g", api.Change{Item: y}), version(uint64(id+1)))
			l = append(l, y)
		}
		r.do(7, 0, search("g", 1, 1, 1))
		r.nodes("g", putAll(x, 60, []int{0, 1}, l...))
	}
}

func TestChangesAreDoneInAnIndexThatWasMade(t *testing.T) {
	r := newRig(t, 0, 1, 2)
	r.ok(create(graphConf("g")), create(flatConf("f")))
	r.want(write("g", put(3, 30), put(1, 10)), version(1))
	r.makeIndex("g")
	x := newIndex()
	x.Put(item(1, 10), 0, 1)
	x.Put(item(3, 30), 1, 1)
	r.nodes("g", x)
	r.want(write("g"), version(1))
	r.nodes("g", x)
	r.want(write("f", put(1, 1)), version(2))
	r.nodes("g", x)
	r.want(write("g", gone(1), put(2, 20, "t"), put(3, 31), put(2, 21)), version(3))
	x.Cut(1, 3)
	x.Put(item(2, 20, "t"), 2, 3)
	x.Put(item(3, 31), 0, 3)
	x.Put(item(2, 21), 1, 3)
	r.nodes("g", x)
	r.fails(write("g", put(9, 9), gone(1)), api.ErrNone)
	r.nodes("g", x)
	r.upload(8, 1, "g", gone(2), put(1, 11))
	r.nodes("g", x)
	r.by(8, 0, commit(1), version(4))
	x.Cut(2, 4)
	x.Put(item(1, 11), 2, 4)
	r.nodes("g", x)
	r.want(search("g", 9, 12), found(4, hit(1, 1), hit(361, 3)))
}

func TestLevels(t *testing.T) {
	for _, c := range []struct {
		levels []byte
		want   []int
	}{
		{nil, []int{0, 0, 0, 0, 0, 0, 0}},
		{[]byte{}, []int{0, 0, 0, 0, 0, 0, 0}},
		{[]byte{0}, []int{0, 0, 0, 0, 0, 0, 0}},
		{[]byte{3}, []int{3, 3, 3, 3, 3, 3, 3}},
		{[]byte{0, 1}, []int{0, 1, 0, 1, 0, 1, 0}},
		{[]byte{2, 0, 1}, []int{2, 0, 1, 2, 0, 1, 2}},
		{[]byte{4, 5, 255}, []int{4, 4, 4, 4, 4, 4, 4}},
		{[]byte{0, 1, 2, 3, 4, 3, 2, 1, 0}, []int{0, 1, 2, 3, 4, 3, 2}},
	} {
		r := newRig(t, c.levels...)
		r.ok(create(graphConf("g")))
		r.want(write("g", put(1, 1), put(2, 2), put(3, 3)), version(1))
		r.makeIndex("g")
		r.wantLevels("g", c.want[:3]...)
		r.want(write("g", put(2, 4), gone(1)), version(2))
		r.wantLevels("g", c.want[:4]...)
		r.fails(write("g", put(6, 4), gone(1)), api.ErrNone)
		r.want(write("g", put(1, 4), put(1, 4), put(9, 5)), version(3))
		r.wantLevels("g", c.want...)
	}
}

func TestMoreNodesThanLevels(t *testing.T) {
	levels := make([]byte, 50)
	for i := range levels {
		levels[i] = byte(i * i % 5)
	}
	r := newRig(t, levels...)
	r.ok(create(graphConf("g")))
	r.fill("g", api.MaxItems, 1)
	r.makeIndex("g")
	for i, level := range r.levels("g") {
		if level != int(levels[i%50]) {
			t.Errorf("the node %d has the level %d; want %d", i, level, levels[i%50])
		}
	}
}

func TestAnIndexIsSweptBehindAWrite(t *testing.T) {
	for _, items := range []int{0, 1, 2, 5} {
		r := newRig(t, 0, 1, 2, 3)
		r.ok(create(graphConf("g")))
		r.makeIndex("g")
		v, x := uint64(0), newIndex()
		putIt := func(id uint32) {
			v++
			x.Put(item(id, int32(v)), int(v-1)%4, v)
			r.want(write("g", put(id, int32(v))), version(v))
		}
		for id := range items {
			putIt(uint32(id + 1))
		}
		// One is there beside them, till it is cut.
		for x.Len() < 2*items+8 {
			putIt(50)
		}
		v++
		x.Cut(50, v)
		r.want(write("g", gone(50)), version(v))
		r.nodes("g", x)
		if len(r.e.Nodes("g")) != 2*items+8 {
			t.Errorf("%d nodes of %d items", len(r.e.Nodes("g")), items)
		}
		r.want(write("g"), version(v))
		r.makeIndex("g")
		r.nodes("g", x)
		v++
		x.Put(item(50, int32(v)), (2*items+8)%4, v)
		x.Cut(50, v)
		x.Sweep(nil)
		r.want(write("g", put(50, int32(v)), gone(50)), version(v))
		r.nodes("g", x)
		if x.Len() != items || items > 0 && !slices.Equal(r.levels("g"), []int{0, 1, 2, 3, 0}[:items]) {
			t.Errorf("%d nodes of %d items, of the levels %v", x.Len(), items, r.levels("g"))
		}
		// The number of a node is that since the index was made: those that were swept count.
		v++
		x.Put(item(60, 1), (2*items+9)%4, v)
		r.want(write("g", put(60, 1)), version(v))
		r.nodes("g", x)
	}
}

func TestAnIndexIsSweptBehindAllChangesOfAWrite(t *testing.T) {
	r := newRig(t, 1)
	r.ok(create(graphConf("g")))
	r.want(write("g", put(1, 1)), version(1))
	r.makeIndex("g")
	x := putAll(newIndex(), 1, []int{1}, item(1, 1))
	// Ahead of the last changes there were 11 nodes of one item.
	var l []api.Change
	for n := range int32(10) {
		x.Put(item(1, n), 1, 2)
		l = append(l, put(1, n))
	}
	x.Put(item(2, 5), 1, 2)
	x.Put(item(3, 6), 1, 2)
	r.want(write("g", append(l, put(2, 5), put(3, 6))...), version(2))
	if x.Len() != 13 {
		t.Fatal(x.Len())
	}
	r.nodes("g", x)
	x.Cut(3, 3)
	x.Sweep(nil)
	r.want(write("g", gone(3)), version(3))
	r.nodes("g", x)
	if x.Len() != 2 {
		t.Fatal(x.Len())
	}
}

func TestAnIndexIsSweptByAnUploadToo(t *testing.T) {
	r := newRig(t)
	r.ok(create(graphConf("g")))
	r.makeIndex("g")
	var l []api.Change
	for n := range int32(100) {
		l = append(l, put(1, n))
	}
	r.upload(7, 1, "g", l...)
	r.want(commit(1), version(1))
	if many := len(r.e.Nodes("g")); many != 1 {
		t.Errorf("%d nodes", many)
	}
	r.want(search("g", 9, 0), found(1, hit(99*99, 1)))
}

func TestASweepKeepsNothingForPins(t *testing.T) {
	r := newRig(t)
	r.ok(create(graphConf("g")))
	r.want(write("g", put(1, 0), put(2, 3)), version(1))
	r.makeIndex("g")
	r.want(open("g", 1), opened(1, 1))
	for v := uint64(2); v < 12; v++ {
		r.want(write("g", put(1, int32(v))), version(v))
	}
	r.want(write("g", put(1, 12)), version(12))
	if many := len(r.e.Nodes("g")); many != 2 {
		t.Errorf("%d nodes", many)
	}
	r.want(fetch(1, 1, 9), paged(1, hit(1, 1), hit(4, 2)))
}

func TestANewCollectionOfANameHasANewIndex(t *testing.T) {
	r := newRig(t, 0, 1, 2)
	r.ok(create(graphConf("g")), create(graphConf("h")))
	r.want(write("g", put(1, 1), put(2, 2)), version(1))
	r.want(write("h", put(1, 1), put(2, 2)), version(2))
	r.makeIndex("g")
	r.makeIndex("h")
	r.ok(drop("g"))
	r.nodes("g", nil)
	r.wantLevels("h", 0, 1)
	c := graphConf("g")
	c.Metric, c.Links = api.Minus, 1
	r.ok(create(c))
	r.nodes("g", nil)
	r.want(write("g", put(5, 5), put(4, 4)), version(3))
	r.nodes("g", nil)
	r.want(search("g", 9, 2), found(3, hit(-10, 5), hit(-8, 4)))
	x := putAll(hnsw.New(api.Minus, 1, 4), 3, []int{0, 1}, item(4, 4), item(5, 5))
	r.nodes("g", x)
	r.want(write("g", put(6, 6)), version(4))
	x.Put(item(6, 6), 2, 4)
	r.nodes("g", x)
	r.want(write("h", put(6, 6)), version(5))
	r.wantLevels("h", 0, 1, 2)
	r.ok(drop("g"), create(flatConf("g")))
	r.makeIndex("g")
	r.want(write("g", put(6, 6)), version(6))
	r.nodes("g", nil)
}

func TestACreateThatFailsLeavesTheIndex(t *testing.T) {
	r := newRig(t, 1)
	r.ok(create(graphConf("g")))
	r.want(write("g", put(1, 1)), version(1))
	r.makeIndex("g")
	r.fails(create(graphConf("g")), api.ErrThere)
	r.fails(create(flatConf("g")), api.ErrThere)
	r.fails(create(api.Conf{Name: "g"}), api.ErrArg)
	r.fails(drop("h"), api.ErrNone)
	x := putAll(newIndex(), 1, []int{1}, item(1, 1))
	x.Put(item(2, 2), 1, 2)
	r.want(write("g", put(2, 2)), version(2))
	r.nodes("g", x)
}
