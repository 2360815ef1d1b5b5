package store

import (
	"math"
	"slices"
	"strings"
	"testing"

	"lodestar/api"
)

// conf gives a conf without a graph, whose vectors have one part.
func conf(name string) api.Conf {
	return api.Conf{Name: name, Dim: 1}
}

// graph gives a conf with a graph.
func graph(name string) api.Conf {
	return api.Conf{Name: name, Dim: 2, Metric: api.Minus, Graph: true, Links: 3, Width: 20}
}

// put gives a change: the item has a vector of one part.
func put(id uint32, part int32, tags ...string) api.Change {
	return api.Change{Item: api.Item{Id: id, Vec: []int32{part}, Tags: tags}}
}

// gone gives a change: the item is gone.
func gone(id uint32) api.Change {
	return api.Change{Gone: true, Item: api.Item{Id: id}}
}

// item gives what put puts.
func item(id uint32, part int32, tags ...string) api.Item {
	return put(id, part, tags...).Item
}

// many gives changes that put n items from the id first on.
func many(first uint32, n int, part int32) []api.Change {
	var l []api.Change
	for i := range n {
		l = append(l, put(first+uint32(i), part))
	}
	return l
}

// with gives a store that has collections of those names.
func with(t *testing.T, names ...string) *Store {
	t.Helper()
	s := New()
	for _, name := range names {
		wantCreate(t, s, conf(name), api.OK)
	}
	return s
}

func wantCreate(t *testing.T, s *Store, c api.Conf, want api.Errno) {
	t.Helper()
	if e := s.Create(c); e != want {
		t.Errorf("Create(%v) = %d; want %d", c, e, want)
	}
}

func wantDrop(t *testing.T, s *Store, name string, want api.Errno) {
	t.Helper()
	if e := s.Drop(name); e != want {
		t.Errorf("Drop(%q) = %d; want %d", name, e, want)
	}
}

func wantNames(t *testing.T, s *Store, want ...string) {
	t.Helper()
	if l := s.Names(); !slices.Equal(l, want) {
		t.Errorf("Names() = %q; want %q", l, want)
	}
}

// wantConf wants there to be a collection of that conf.
func wantConf(t *testing.T, s *Store, want api.Conf) {
	t.Helper()
	if c, ok := s.Conf(want.Name); c != want || !ok {
		t.Errorf("Conf(%q) = %v, %v; want %v", want.Name, c, ok, want)
	}
}

// wantWrite wants l to be written, at the version v.
func wantWrite(t *testing.T, s *Store, name string, v uint64, l ...api.Change) {
	t.Helper()
	if got, e := s.Write(name, l); got != v || e != api.OK {
		t.Errorf("Write(%q, %d changes) = %d, %d; want %d", name, len(l), got, e, v)
	}
	if s.Version() != v {
		t.Errorf("Version() = %d; want %d", s.Version(), v)
	}
}

// wantRefused wants l not to be written, by the error want, and nothing to change.
func wantRefused(t *testing.T, s *Store, name string, want api.Errno, l ...api.Change) {
	t.Helper()
	before := tellAll(s)
	if v, e := s.Write(name, l); v != 0 || e != want {
		t.Errorf("Write(%q, %d changes) = %d, %d; want 0, %d", name, len(l), v, e, want)
	}
	wantTold(t, s, before)
}

// wantThere wants just those items to be there now, and size and rows to be as many.
func wantThere(t *testing.T, s *Store, name string, rows int, want ...api.Item) {
	t.Helper()
	if s.Size(name) != len(want) || s.Rows(name) != rows {
		t.Errorf("%q has %d items, %d rows; want %d, %d", name, s.Size(name), s.Rows(name), len(want), rows)
	}
	for _, x := range want {
		if got, e := s.Get(name, x.Id); e != api.OK || !same(got, x) {
			t.Errorf("Get(%q, %d) = %v, %d; want %v", name, x.Id, got, e, x)
		}
	}
}

// wantNoItem wants Get to tell ErrNone and nothing else.
func wantNoItem(t *testing.T, s *Store, name string, ids ...uint32) {
	t.Helper()
	for _, id := range ids {
		if x, e := s.Get(name, id); e != api.ErrNone || x.Id != 0 || len(x.Vec) != 0 || len(x.Tags) != 0 {
			t.Errorf("Get(%q, %d) = %v, %d; want nothing and %d", name, id, x, e, api.ErrNone)
		}
	}
}

// wantPin wants a pin of the collection to be made, of that number and version.
func wantPin(t *testing.T, s *Store, name string, n int, v uint64) {
	t.Helper()
	if got, w, e := s.Pin(name); got != n || w != v || e != api.OK {
		t.Errorf("Pin(%q) = %d, %d, %d; want %d, %d", name, got, w, e, n, v)
	}
}

func wantUnpin(t *testing.T, s *Store, n int, want bool) {
	t.Helper()
	if got := s.Unpin(n); got != want {
		t.Errorf("Unpin(%d) = %v", n, got)
	}
}

// wantPinned wants the pin to hold just those items, in that order.
func wantPinned(t *testing.T, s *Store, n int, c api.Conf, want ...api.Item) {
	t.Helper()
	if l, d, e := s.Pinned(n); e != api.OK || d != c || !slices.EqualFunc(l, want, same) {
		t.Errorf("Pinned(%d) = %v, %v, %d; want %v, %v", n, l, d, e, want, c)
	}
}

// wantNoPin wants there to be no such pins.
func wantNoPin(t *testing.T, s *Store, numbers ...int) {
	t.Helper()
	for _, n := range numbers {
		if l, c, e := s.Pinned(n); e != api.ErrGone || len(l) != 0 || c != (api.Conf{}) {
			t.Errorf("Pinned(%d) = %v, %v, %d; want nothing and %d", n, l, c, e, api.ErrGone)
		}
		wantUnpin(t, s, n, false)
	}
}

// told is what a store tells of a collection.
type told struct {
	conf       api.Conf
	size, rows int
	items      []api.Item
}

// toldAll is what a store tells.
type toldAll struct {
	version uint64
	colls   []told
	pins    int
	pinned  [][]api.Item
}

// tellAll gives what s tells, of items of those ids that the tests use.
func tellAll(s *Store) toldAll {
	l := toldAll{version: s.Version(), pins: s.Pins()}
	for _, name := range s.Names() {
		c, _ := s.Conf(name)
		x := told{conf: c, size: s.Size(name), rows: s.Rows(name)}
		for id := range uint32(300) {
			if got, e := s.Get(name, id); e == api.OK {
				x.items = append(x.items, got)
			}
		}
		l.colls = append(l.colls, x)
	}
	for n := range 20 {
		items, _, _ := s.Pinned(n)
		l.pinned = append(l.pinned, items)
	}
	return l
}

// wantTold wants s to tell what was told.
func wantTold(t *testing.T, s *Store, was toldAll) {
	t.Helper()
	is := tellAll(s)
	alike := func(a, b told) bool {
		return a.conf == b.conf && a.size == b.size && a.rows == b.rows && slices.EqualFunc(a.items, b.items, same)
	}
	lists := func(a, b []api.Item) bool { return slices.EqualFunc(a, b, same) }
	if is.version != was.version || is.pins != was.pins || !slices.EqualFunc(is.colls, was.colls, alike) || !slices.EqualFunc(is.pinned, was.pinned, lists) {
		t.Errorf("the store tells %v; it told %v", is, was)
	}
}

func TestTheChaptersExamples(t *testing.T) {
	s := with(t, "a")
	wantWrite(t, s, "a", 1, put(1, 5), put(2, 6))
	wantPin(t, s, "a", 1, 1)
	wantWrite(t, s, "a", 2, gone(1))
	wantPinned(t, s, 1, conf("a"), item(1, 5), item(2, 6))
	wantThere(t, s, "a", 3, item(2, 6))
	wantRefused(t, s, "a", api.ErrNone, gone(1))
}

// P9.1

func TestAStoreWithoutCollections(t *testing.T) {
	s := New()
	for range 3 {
		wantNames(t, s)
		for _, name := range []string{"", "a", strings.Repeat("a", 17)} {
			wantNothing(t, s, name)
		}
		wantNoPin(t, s, math.MinInt, -1, 0, 1, 2, math.MaxInt)
		if s.Version() != 0 || s.Pins() != 0 {
			t.Errorf("version %d, %d pins", s.Version(), s.Pins())
		}
	}
	wantCreate(t, s, conf("a"), api.OK)
	wantPin(t, s, "a", 1, 0)
}

// wantNothing wants each call to tell that there is no such collection.
func wantNothing(t *testing.T, s *Store, name string) {
	t.Helper()
	wantDrop(t, s, name, api.ErrNone)
	if c, ok := s.Conf(name); c != (api.Conf{}) || ok {
		t.Errorf("Conf(%q) = %v, %v", name, c, ok)
	}
	wantRefused(t, s, name, api.ErrNone)
	wantRefused(t, s, name, api.ErrNone, put(1, 1))
	wantNoItem(t, s, name, 0, 1, math.MaxUint32)
	wantThere(t, s, name, 0)
	if n, v, e := s.Pin(name); n != 0 || v != 0 || e != api.ErrNone {
		t.Errorf("Pin(%q) = %d, %d, %d", name, n, v, e)
	}
}

func TestConfsThatMayBe(t *testing.T) {
	for _, c := range []api.Conf{
		{Name: "a", Dim: 1}, {Name: "a", Dim: 16}, {Name: strings.Repeat("n", 16), Dim: 7},
		{Name: "a", Dim: 1, Metric: api.Minus}, {Name: "\x00", Dim: 1}, {Name: "\xff\xfe", Dim: 1}, {Name: strings.Repeat("é", 8), Dim: 1},
		{Name: "g", Dim: 1, Graph: true, Links: 1, Width: 1}, {Name: "g", Dim: 16, Metric: api.Minus, Graph: true, Links: 8, Width: 256},
		{Name: "g", Dim: 3, Graph: true, Links: 1, Width: 256}, {Name: "g", Dim: 3, Graph: true, Links: 8, Width: 1},
	} {
		s := New()
		wantCreate(t, s, c, api.OK)
		wantNames(t, s, c.Name)
		wantConf(t, s, c)
		wantThere(t, s, c.Name, 0)
	}
}

func TestConfsThatMayNotBe(t *testing.T) {
	s := New()
	for _, c := range []api.Conf{
		{}, {Dim: 1}, {Name: strings.Repeat("n", 17), Dim: 1}, {Name: strings.Repeat("n", 5000), Dim: 1}, {Name: strings.Repeat("é", 9), Dim: 1},
		{Name: "a"}, {Name: "a", Dim: 17}, {Name: "a", Dim: 255},
		{Name: "a", Dim: 1, Metric: 2}, {Name: "a", Dim: 1, Metric: 255},
		{Name: "a", Dim: 1, Links: 1}, {Name: "a", Dim: 1, Width: 1}, {Name: "a", Dim: 1, Links: 8, Width: 256},
		{Name: "a", Dim: 1, Graph: true}, {Name: "a", Dim: 1, Graph: true, Links: 1}, {Name: "a", Dim: 1, Graph: true, Width: 1},
		{Name: "a", Dim: 1, Graph: true, Links: 9, Width: 1}, {Name: "a", Dim: 1, Graph: true, Links: 255, Width: 1},
		{Name: "a", Dim: 1, Graph: true, Links: 1, Width: 257}, {Name: "a", Dim: 1, Graph: true, Links: 1, Width: 65535},
		{Dim: 1, Graph: true, Links: 1, Width: 1}, {Name: "a", Graph: true, Links: 1, Width: 1},
	} {
		wantCreate(t, s, c, api.ErrArg)
		wantNames(t, s)
		wantNothing(t, s, c.Name)
	}
}

func TestOneCollectionOfAName(t *testing.T) {
	s := with(t, "a")
	wantWrite(t, s, "a", 1, put(1, 1))
	wantCreate(t, s, conf("a"), api.ErrThere)
	wantCreate(t, s, graph("a"), api.ErrThere)
	wantConf(t, s, conf("a"))
	wantThere(t, s, "a", 1, item(1, 1))
	wantCreate(t, s, graph("A"), api.OK)
	wantNames(t, s, "A", "a")
	wantConf(t, s, graph("A"))
	wantConf(t, s, conf("a"))
}

func TestMaxColls(t *testing.T) {
	s := with(t, "e", "d", "c", "b", "a", "h", "g", "f")
	wantNames(t, s, "a", "b", "c", "d", "e", "f", "g", "h")
	wantCreate(t, s, conf("i"), api.ErrFull)
	wantCreate(t, s, graph("i"), api.ErrFull)
	wantNames(t, s, "a", "b", "c", "d", "e", "f", "g", "h")
	wantDrop(t, s, "i", api.ErrNone)
	wantDrop(t, s, "c", api.OK)
	wantCreate(t, s, graph("i"), api.OK)
	wantCreate(t, s, conf("c"), api.ErrFull)
	wantNames(t, s, "a", "b", "d", "e", "f", "g", "h", "i")
}

func TestWhichErrorOfCreateComesFirst(t *testing.T) {
	s := with(t, "a", "b", "c", "d", "e", "f", "g")
	wantCreate(t, s, api.Conf{Name: "a", Dim: 17}, api.ErrArg)
	wantCreate(t, s, api.Conf{Name: "a"}, api.ErrArg)
	wantCreate(t, s, conf("a"), api.ErrThere)
	wantCreate(t, s, conf("h"), api.OK)
	wantCreate(t, s, api.Conf{Name: "i"}, api.ErrArg)
	wantCreate(t, s, api.Conf{Name: "a", Dim: 1, Width: 1}, api.ErrArg)
	wantCreate(t, s, conf("a"), api.ErrThere)
	wantCreate(t, s, conf("h"), api.ErrThere)
	wantCreate(t, s, conf("i"), api.ErrFull)
}

func TestDropAndMadeAgain(t *testing.T) {
	s := with(t, "a", "b")
	wantWrite(t, s, "a", 1, put(1, 1), put(2, 2))
	wantWrite(t, s, "b", 2, put(1, 3))
	wantDrop(t, s, "a", api.OK)
	wantNothing(t, s, "a")
	wantNames(t, s, "b")
	wantCreate(t, s, graph("a"), api.OK)
	wantNames(t, s, "a", "b")
	wantConf(t, s, graph("a"))
	wantThere(t, s, "a", 0)
	wantNoItem(t, s, "a", 1, 2)
	wantRefused(t, s, "a", api.ErrNone, gone(1))
	wantRefused(t, s, "a", api.ErrDim, put(1, 1))
	wantThere(t, s, "b", 1, item(1, 3))
	wide := api.Change{Item: api.Item{Id: 2, Vec: []int32{1, 2}}}
	wantWrite(t, s, "a", 3, wide)
	wantThere(t, s, "a", 1, wide.Item)
	wantNoItem(t, s, "a", 1)
}

func TestTheVersionStaysWhateverIsMadeOrDropped(t *testing.T) {
	s := with(t, "a", "b")
	wantWrite(t, s, "a", 1, put(1, 1))
	wantCreate(t, s, conf("c"), api.OK)
	wantDrop(t, s, "a", api.OK)
	wantDrop(t, s, "a", api.ErrNone)
	wantCreate(t, s, conf("a"), api.OK)
	if s.Version() != 1 {
		t.Errorf("version %d", s.Version())
	}
	wantWrite(t, s, "a", 2, put(1, 1))
}

func TestNamesRiseByTheirBytes(t *testing.T) {
	s := with(t, "b", "ab", "\xff", "a", "é", "B", "\x00", "aa")
	wantNames(t, s, "\x00", "B", "a", "aa", "ab", "b", "é", "\xff")
}

// P9.3

func TestGetAndSize(t *testing.T) {
	s := with(t, "a", "b")
	wantWrite(t, s, "a", 1, put(1, -5, "t", "u"), put(math.MaxUint32, 1<<20))
	wantThere(t, s, "a", 2, item(1, -5, "t", "u"), item(math.MaxUint32, 1<<20))
	wantNoItem(t, s, "a", 0, 2, math.MaxUint32-1)
	wantThere(t, s, "b", 0)
	wantNoItem(t, s, "b", 1, math.MaxUint32)
	wantNoItem(t, s, "c", 1)
	wantWrite(t, s, "b", 2, put(1, 7))
	wantWrite(t, s, "a", 3, put(1, 6))
	wantThere(t, s, "a", 2, item(1, 6), item(math.MaxUint32, 1<<20))
	wantThere(t, s, "b", 1, item(1, 7))
	wantWrite(t, s, "a", 4, gone(1))
	wantThere(t, s, "a", 1, item(math.MaxUint32, 1<<20))
	wantNoItem(t, s, "a", 1)
	wantWrite(t, s, "a", 5, gone(math.MaxUint32))
	wantThere(t, s, "a", 0)
	wantNoItem(t, s, "a", 1, math.MaxUint32)
	wantWrite(t, s, "a", 6, put(1, 8))
	wantThere(t, s, "a", 1, item(1, 8))
}

func TestGetTellsWhatIsNowNotWhatIsPinned(t *testing.T) {
	s := with(t, "a")
	wantWrite(t, s, "a", 1, put(1, 1), put(2, 1))
	wantPin(t, s, "a", 1, 1)
	wantWrite(t, s, "a", 2, put(1, 2), gone(2), put(3, 2))
	wantThere(t, s, "a", 5, item(1, 2), item(3, 2))
	wantNoItem(t, s, "a", 2)
}

func TestTheVersionIsOneForAllCollections(t *testing.T) {
	s := with(t, "a", "b", "c")
	for v := uint64(1); v < 40; v++ {
		wantWrite(t, s, []string{"a", "b", "c"}[v*v%3], v, put(uint32(v), 1))
	}
	before := s.Version()
	s.Get("a", 1)
	s.Size("a")
	s.Names()
	s.Pin("a")
	s.Pinned(1)
	s.Unpin(1)
	s.Write("a", nil)
	s.Write("a", []api.Change{put(0, 0)})
	s.Write("d", []api.Change{put(1, 0)})
	if s.Version() != before {
		t.Errorf("version %d; it was %d", s.Version(), before)
	}
}

// P9.5

func TestWithoutPinsAsManyRowsAsItems(t *testing.T) {
	s := with(t, "a")
	d := dice(7)
	there := map[uint32]bool{}
	for v := uint64(1); v < 300; v++ {
		var l []api.Change
		for range 1 + d.upTo(5) {
			id := uint32(1 + d.upTo(9))
			if there[id] && d.upTo(2) == 0 {
				l = append(l, gone(id))
				delete(there, id)
			} else {
				l = append(l, put(id, int32(v)))
				there[id] = true
			}
		}
		wantWrite(t, s, "a", v, l...)
		if s.Size("a") != len(there) || s.Rows("a") != len(there) {
			t.Fatalf("%d items, %d rows; want %d", s.Size("a"), s.Rows("a"), len(there))
		}
	}
}

// dice gives numbers from a fixed sequence.
type dice uint32

// upTo gives one from 0 to n - 1.
func (d *dice) upTo(n int) int {
	*d = *d*1664525 + 1013904223
	return int(uint64(*d) * uint64(n) >> 32)
}

// The rules that hold everywhere

func TestWhatWasHandedInIsNotKeptNorChanged(t *testing.T) {
	s := with(t, "a")
	vec := []int32{5, 77, 77}
	tags := []string{"t", "spare"}
	list := []api.Change{{Item: api.Item{Id: 1, Vec: vec[:1], Tags: tags[:1]}}, put(2, 2), put(9, 9)}
	wantWrite(t, s, "a", 1, list[:2]...)
	wantPin(t, s, "a", 1, 1)
	if !slices.Equal(vec, []int32{5, 77, 77}) || !slices.Equal(tags, []string{"t", "spare"}) || list[2].Item.Id != 9 {
		t.Error(vec, tags, list)
	}
	vec[0], tags[0] = 8, "w"
	list[1].Item.Vec[0], list[1].Item.Id = 99, 3
	wantThere(t, s, "a", 2, item(1, 5, "t"), item(2, 2))
	wantPinned(t, s, 1, conf("a"), item(1, 5, "t"), item(2, 2))
}

func TestAnswersAreNewMemory(t *testing.T) {
	s := with(t, "a", "b")
	wantWrite(t, s, "a", 1, put(1, 5, "t"), put(2, 6, "u"))
	wantPin(t, s, "a", 1, 1)
	for range 3 {
		x, _ := s.Get("a", 1)
		l, _, _ := s.Pinned(1)
		k, _, _ := s.Pinned(1)
		names := s.Names()
		x.Vec[0], x.Tags[0] = 99, "w"
		_, _ = append(x.Vec, 98), append(x.Tags, "v")
		l[0].Vec[0], l[1].Tags[0] = 97, "x"
		l[1].Id = 55
		_ = append(l, item(3, 3))
		names[0] = "z"
		if !slices.EqualFunc(k, []api.Item{item(1, 5, "t"), item(2, 6, "u")}, same) {
			t.Error(k)
		}
		wantThere(t, s, "a", 2, item(1, 5, "t"), item(2, 6, "u"))
		wantPinned(t, s, 1, conf("a"), item(1, 5, "t"), item(2, 6, "u"))
		wantNames(t, s, "a", "b")
	}
}

func TestNoListAndAnEmptyOneAreTheSame(t *testing.T) {
	s := with(t, "a")
	for _, tags := range [][]string{nil, {}} {
		if _, e := s.Write("a", []api.Change{{Item: api.Item{Id: 1, Vec: []int32{1}, Tags: tags}}}); e != api.OK {
			t.Error(e)
		}
		wantThere(t, s, "a", 1, item(1, 1))
	}
	for _, vec := range [][]int32{nil, {}} {
		wantRefused(t, s, "a", api.ErrDim, api.Change{Item: api.Item{Id: 2, Vec: vec}})
	}
	for _, l := range [][]api.Change{nil, {}} {
		if v, e := s.Write("a", l); v != 2 || e != api.OK {
			t.Error(v, e)
		}
	}
}

func TestTwoStoresDoNotTouchEachOther(t *testing.T) {
	a, b := with(t, "a"), with(t, "a")
	wantWrite(t, a, "a", 1, put(1, 1))
	wantPin(t, a, "a", 1, 1)
	wantThere(t, b, "a", 0)
	wantNoPin(t, b, 1)
	wantPin(t, b, "a", 1, 0)
	wantPin(t, b, "a", 2, 0)
	wantWrite(t, b, "a", 1, put(1, 2))
	wantUnpin(t, b, 1, true)
	wantPinned(t, a, 1, conf("a"), item(1, 1))
	wantDrop(t, b, "a", api.OK)
	wantThere(t, a, "a", 1, item(1, 1))
	wantNames(t, b)
	wantPin(t, a, "a", 2, 1)
}
