package store

import (
	"math"
	"slices"
	"testing"

	"lodestar/api"
)

// P9.4

func TestNumbersOfPinsAreNeverUsedAgain(t *testing.T) {
	s := with(t, "a", "b")
	wantPin(t, s, "a", 1, 0)
	wantPin(t, s, "b", 2, 0)
	wantUnpin(t, s, 2, true)
	wantPin(t, s, "a", 3, 0)
	wantUnpin(t, s, 1, true)
	wantUnpin(t, s, 3, true)
	if _, _, e := s.Pin("c"); e != api.ErrNone {
		t.Error(e)
	}
	wantWrite(t, s, "b", 1, put(1, 1))
	wantPin(t, s, "a", 4, 1)
	wantDrop(t, s, "a", api.OK)
	wantPin(t, s, "b", 5, 1)
	wantNoPin(t, s, math.MinInt, -5, -1, 0, 1, 2, 3, 4, 6, 7, math.MaxInt)
	wantPinned(t, s, 5, conf("b"), item(1, 1))
}

func TestPinsAreCounted(t *testing.T) {
	s := with(t, "a", "b")
	count := func(want int) {
		t.Helper()
		if s.Pins() != want {
			t.Errorf("%d pins; want %d", s.Pins(), want)
		}
	}
	count(0)
	for n := range 300 {
		wantPin(t, s, []string{"a", "b"}[n%2], n+1, 0)
		count(n + 1)
	}
	s.Pin("c")
	count(300)
	for n := range 100 {
		wantUnpin(t, s, n+1, true)
		wantUnpin(t, s, n+1, false)
		count(299 - n)
	}
	wantDrop(t, s, "b", api.OK)
	count(100)
	wantDrop(t, s, "a", api.OK)
	count(0)
}

func TestSeveralPinsOfOneVersion(t *testing.T) {
	s := with(t, "a")
	wantWrite(t, s, "a", 1, put(1, 1), put(2, 1))
	for n := range 3 {
		wantPin(t, s, "a", n+1, 1)
	}
	wantWrite(t, s, "a", 2, put(1, 2), gone(2))
	wantThere(t, s, "a", 4, item(1, 2))
	for _, n := range []int{2, 1} {
		wantUnpin(t, s, n, true)
		wantNoPin(t, s, n)
		wantPinned(t, s, 3, conf("a"), item(1, 1), item(2, 1))
		wantThere(t, s, "a", 4, item(1, 2))
		wantWrite(t, s, "a", uint64(5-n), put(1, 2))
		wantPinned(t, s, 3, conf("a"), item(1, 1), item(2, 1))
	}
	wantUnpin(t, s, 3, true)
	wantThere(t, s, "a", 1, item(1, 2))
	wantNoPin(t, s, 1, 2, 3)
}

func TestPinnedBehindWrites(t *testing.T) {
	s := New()
	wantCreate(t, s, graph("g"), api.OK)
	of := func(id uint32, x int32, tags ...string) api.Item {
		return api.Item{Id: id, Vec: []int32{x, -x}, Tags: tags}
	}
	wantPin(t, s, "g", 1, 0)
	wantWrite(t, s, "g", 1, api.Change{Item: of(9, 1, "t")}, api.Change{Item: of(3, 1)}, api.Change{Item: of(math.MaxUint32, 1)})
	wantPin(t, s, "g", 2, 1)
	wantWrite(t, s, "g", 2, api.Change{Item: of(9, 2)}, gone(3), api.Change{Item: of(4, 2, "u")})
	wantPin(t, s, "g", 3, 2)
	wantWrite(t, s, "g", 3, gone(9), gone(4), gone(math.MaxUint32))
	wantPin(t, s, "g", 4, 3)
	wantWrite(t, s, "g", 4, api.Change{Item: of(3, 4)})
	for range 2 {
		wantPinned(t, s, 1, graph("g"))
		wantPinned(t, s, 2, graph("g"), of(3, 1), of(9, 1, "t"), of(math.MaxUint32, 1))
		wantPinned(t, s, 3, graph("g"), of(4, 2, "u"), of(9, 2), of(math.MaxUint32, 1))
		wantPinned(t, s, 4, graph("g"))
		wantWrite(t, s, "g", s.Version()+1, api.Change{Item: of(3, 5)})
	}
	wantUnpin(t, s, 2, true)
	wantPinned(t, s, 1, graph("g"))
	wantPinned(t, s, 3, graph("g"), of(4, 2, "u"), of(9, 2), of(math.MaxUint32, 1))
	wantPinned(t, s, 4, graph("g"))
	wantUnpin(t, s, 3, true)
	wantUnpin(t, s, 4, true)
	wantPinned(t, s, 1, graph("g"))
	wantThere(t, s, "g", 1, of(3, 5))
}

func TestAPinAtAVersionOfAnotherCollection(t *testing.T) {
	s := with(t, "a", "b")
	wantWrite(t, s, "a", 1, put(1, 1))
	wantWrite(t, s, "b", 2, put(1, 2))
	wantWrite(t, s, "b", 3, put(1, 3))
	wantPin(t, s, "a", 1, 3)
	wantPin(t, s, "b", 2, 3)
	wantWrite(t, s, "b", 4, put(1, 4))
	wantPin(t, s, "a", 3, 4)
	wantWrite(t, s, "a", 5, put(1, 5))
	wantPinned(t, s, 1, conf("a"), item(1, 1))
	wantPinned(t, s, 2, conf("b"), item(1, 3))
	wantPinned(t, s, 3, conf("a"), item(1, 1))
	wantThere(t, s, "a", 2, item(1, 5))
	wantUnpin(t, s, 1, true)
	wantThere(t, s, "a", 2, item(1, 5))
	wantPinned(t, s, 3, conf("a"), item(1, 1))
	wantUnpin(t, s, 3, true)
	wantThere(t, s, "a", 1, item(1, 5))
	wantThere(t, s, "b", 2, item(1, 4))
}

func TestPinsOfADroppedCollection(t *testing.T) {
	s := with(t, "a", "b")
	wantWrite(t, s, "a", 1, put(1, 1))
	wantWrite(t, s, "b", 2, put(1, 2))
	wantPin(t, s, "a", 1, 2)
	wantPin(t, s, "b", 2, 2)
	wantPin(t, s, "a", 3, 2)
	wantDrop(t, s, "a", api.OK)
	wantNoPin(t, s, 1, 3)
	if s.Pins() != 1 {
		t.Error(s.Pins())
	}
	wantPinned(t, s, 2, conf("b"), item(1, 2))
	wantCreate(t, s, conf("a"), api.OK)
	wantNoPin(t, s, 1, 3)
	wantPin(t, s, "a", 4, 2)
	wantPinned(t, s, 4, conf("a"))
	wantWrite(t, s, "a", 3, put(1, 3))
	wantWrite(t, s, "a", 4, put(1, 4))
	wantNoPin(t, s, 1, 3)
	wantPinned(t, s, 4, conf("a"))
	wantThere(t, s, "a", 1, item(1, 4))
}

func TestRowsBehindWritesAndUnpin(t *testing.T) {
	s := with(t, "a", "b")
	rows := func(a, b int) {
		t.Helper()
		if s.Rows("a") != a || s.Rows("b") != b {
			t.Errorf("%d and %d rows; want %d and %d", s.Rows("a"), s.Rows("b"), a, b)
		}
	}
	wantWrite(t, s, "a", 1, put(1, 1), put(2, 1))
	wantPin(t, s, "a", 1, 1)
	rows(2, 0)
	wantWrite(t, s, "b", 2, put(1, 1))
	wantWrite(t, s, "b", 3, put(1, 1))
	rows(2, 1)
	wantWrite(t, s, "a", 4, put(1, 2), gone(2))
	rows(4, 1)
	wantPin(t, s, "a", 2, 4)
	wantWrite(t, s, "a", 5, put(1, 3))
	rows(5, 1)
	wantWrite(t, s, "a", 6, put(1, 4))
	rows(5, 1)
	wantUnpin(t, s, 7, false)
	rows(5, 1)
	wantUnpin(t, s, 1, true)
	rows(2, 1)
	wantWrite(t, s, "a", 7, put(2, 1))
	rows(3, 1)
	wantUnpin(t, s, 2, true)
	rows(2, 1)
	wantUnpin(t, s, 2, false)
	rows(2, 1)
	wantWrite(t, s, "a", 8, gone(1), gone(2))
	rows(0, 1)
}

func TestWhatIsHeldIsCountedForVersionsThatArePinned(t *testing.T) {
	s := with(t, "a", "b")
	held := func(name string, want int) {
		t.Helper()
		if got := len(s.colls[name].held); got != want {
			t.Errorf("%d versions of %q; want %d", got, name, want)
		}
	}
	for v := uint64(1); v < 4; v++ {
		wantWrite(t, s, "a", v, put(1, 1))
		s.Pin("a")
		s.Pin("a")
		held("a", int(v))
	}
	held("b", 0)
	for n, want := range []int{3, 2, 2, 1, 1, 0} {
		wantUnpin(t, s, n+1, true)
		held("a", want)
	}
}

// P9.5, and all promises at once

// step does to both what the dice say.
func (b *pair) step(d *dice, names []string, ids, batch int) {
	b.t.Helper()
	name := names[d.upTo(len(names))]
	switch d.upTo(12) {
	case 0:
		b.create(api.Conf{Name: name, Dim: byte(1 + d.upTo(2)), Metric: api.Metric(d.upTo(3)), Links: byte(d.upTo(10) / 9)})
	case 1:
		if d.upTo(6) == 0 {
			b.drop(name)
		}
	case 2, 3:
		b.pin(name)
	case 4, 5:
		b.unpin(d.upTo(b.s.given + 2))
	default:
		b.write(name, b.changes(d, name, ids, batch))
	}
}

// changes gives up to so many of them, of which few may not be.
func (b *pair) changes(d *dice, name string, ids, batch int) []api.Change {
	dim := 1
	if c, ok := b.s.Conf(name); ok {
		dim = int(c.Dim)
	}
	var there []uint32 // as it would be behind the changes ahead
	if c := b.s.find(name); c != nil {
		for _, x := range c.items {
			there = append(there, x.Id)
		}
	}
	var l []api.Change
	for range d.upTo(batch + 1) {
		x := api.Change{Item: api.Item{Id: uint32(1 + d.upTo(ids)), Vec: []int32{int32(d.upTo(9)), 3}[:dim]}}
		if len(there) > 0 && d.upTo(5) < 2 {
			x = gone(there[d.upTo(len(there))])
		}
		switch d.upTo(30 * batch) {
		case 0:
			x.Item.Id = 0
		case 1:
			x.Item.Vec = []int32{1, 2, 3}
		case 2:
			x.Item.Tags = []string{"b", "a"}
		case 3:
			x = gone(uint32(1 + d.upTo(ids)))
		}
		there = slices.DeleteFunc(there, func(id uint32) bool { return id == x.Item.Id })
		if !x.Gone {
			there = append(there, x.Item.Id)
		}
		l = append(l, x)
	}
	return l
}

func TestAsTheSlowOne(t *testing.T) {
	d := dice(3)
	for range 60 {
		b := newPair(t)
		for range 60 {
			b.step(&d, []string{"a", "b", "nameofmorethan16b"}, 4, 5)
			b.wantAlike()
		}
	}
}

func TestManyItemsAsTheSlowOne(t *testing.T) {
	d := dice(5)
	for range 3 {
		b := newPair(t)
		b.create(conf("a"))
		errors := map[api.Errno]int{}
		for n := range 70 {
			if d.upTo(3) == 0 {
				b.pin("a")
			}
			if d.upTo(9) == 0 {
				b.unpin(1 + d.upTo(b.s.given+1))
			}
			errors[b.write("a", b.changes(&d, "a", 190, 131))]++
			if n%10 == 0 {
				b.wantAlike()
			}
		}
		b.wantAlike()
		if errors[api.OK] == 0 || errors[api.ErrFull] == 0 {
			t.Error(errors)
		}
	}
}

func TestEveryScriptOfFewSteps(t *testing.T) {
	steps := []func(*pair){
		func(b *pair) { b.write("a", []api.Change{put(1, int32(b.s.version))}) },
		func(b *pair) { b.write("a", []api.Change{gone(1)}) },
		func(b *pair) { b.write("b", []api.Change{put(1, 1)}) },
		func(b *pair) { b.pin("a") },
		func(b *pair) { b.unpin(1) },
		func(b *pair) { b.unpin(2) },
		func(b *pair) { b.drop("a"); b.create(conf("a")) },
	}
	count := 1
	for range 5 {
		count *= len(steps)
	}
	for code := range count {
		b := newPair(t)
		b.create(conf("a"))
		b.create(conf("b"))
		for range 5 {
			steps[code%len(steps)](b)
			code /= len(steps)
		}
		b.wantAlike()
	}
}
