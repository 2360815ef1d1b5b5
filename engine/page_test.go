package engine

import (
	"math"
	"strings"
	"testing"

	"lodestar/api"
)

// P15.1: Open, Fetch, Close

// withItems gives an engine with the collection a: the items 1 to n stand at their numbers, and were written by as few writes as may be.
func withItems(t *testing.T, c api.Conf, n int) (*rig, uint64) {
	t.Helper()
	r := newRig(t, 0, 1)
	r.ok(create(c))
	return r, r.fill(c.Name, n, 1)
}

// away gives the hits of the items from the ids first to last, as far from (0) as they are.
func away(first, last uint32) []api.Hit {
	var l []api.Hit
	for id := first; id <= last; id++ {
		l = append(l, hit(int64(id)*int64(id), id))
	}
	return l
}

func TestErrorsOfOpen(t *testing.T) {
	for _, c := range []api.Conf{flatConf("a"), graphConf("a")} {
		r, v := withItems(t, c, 2)
		ask := func(name string, vec []int32, any ...string) api.Message {
			x := open(name, vec...)
			x.Filter.Any = any
			return x
		}
		for _, any := range [][]string{nil, {""}, {strings.Repeat("t", api.MaxTag+1)}} {
			r.fails(ask("b", nil, any...), api.ErrNone)
			r.fails(ask("", []int32{1}, any...), api.ErrNone)
			r.fails(ask("a", nil, any...), api.ErrDim)
			r.fails(ask("a", []int32{1, 1 << 21}, any...), api.ErrDim)
			r.fails(ask("a", []int32{1 << 21}, any...), api.ErrPart)
			if any != nil {
				r.fails(ask("a", []int32{1}, any...), api.ErrTag)
			}
		}
		// Those that failed have used up no number. K and Width say nothing.
		x := open("a", 1)
		x.K, x.Width = 999, 999
		r.want(x, opened(1, v))
		r.has(1, 0, 1)
	}
}

func TestOpenTellsItsNumberAndVersion(t *testing.T) {
	r, v := withItems(t, graphConf("a"), 2)
	r.ok(create(flatConf("b")))
	r.want(open("a", 1), opened(1, v))
	r.want(open("b", 1), opened(2, v))
	r.want(write("b", put(1, 1)), version(v+1))
	r.want(open("a", 1), opened(3, v+1))
	r.by(8, 3, open("a", 1), opened(4, v+1))
	r.ok(closing(3))
	r.want(open("b", 1), opened(5, v+1))
	r.has(4, 0, 4)
	r.nodes("a", nil)
}

func TestPagesOfSeveralSizes(t *testing.T) {
	for _, c := range []api.Conf{flatConf("a"), graphConf("a")} {
		r, v := withItems(t, c, 50)
		r.want(open("a", 0), opened(1, v))
		r.want(fetch(1, 1, 1), paged(1, away(1, 1)...))
		r.want(fetch(1, 2, 3), paged(1, away(2, 4)...))
		r.want(fetch(1, 3, api.MaxK), paged(1, away(5, 36)...))
		r.want(fetch(1, 4, 2), paged(1, away(37, 38)...))
		r.want(fetch(1, 5, 12), paged(1, away(39, 50)...))
		r.want(fetch(1, 6, 1), paged(1))
		r.want(fetch(1, 7, 9), paged(1))
		r.want(fetch(1, 7, 9), paged(1))
		r.fails(fetch(1, 6-1, 9), api.ErrArg)
	}
}

func TestAPageThatIsAskedForAgain(t *testing.T) {
	r, v := withItems(t, flatConf("a"), 20)
	r.want(open("a", 0), opened(1, v))
	for range 3 {
		r.want(fetch(1, 1, 4), paged(1, away(1, 4)...))
	}
	r.want(fetch(1, 2, 4), paged(1, away(5, 8)...))
	r.want(fetch(1, 2, 2), paged(1, away(5, 6)...))
	r.want(fetch(1, 3, 1), paged(1, away(7, 7)...))
	r.want(fetch(1, 3, 9), paged(1, away(7, 15)...))
	r.want(fetch(1, 4, 9), paged(1, away(16, 20)...))
	r.want(fetch(1, 4, 9), paged(1, away(16, 20)...))
}

func TestAPageThatMayNotBeAskedFor(t *testing.T) {
	r, v := withItems(t, flatConf("a"), 9)
	r.want(open("a", 0), opened(1, v))
	for _, page := range []uint32{0, 2, 3, math.MaxUint32} {
		r.fails(fetch(1, page, 2), api.ErrArg)
	}
	r.want(fetch(1, 1, 2), paged(1, away(1, 2)...))
	for _, page := range []uint32{0, 3, 4, math.MaxUint32} {
		r.fails(fetch(1, page, 2), api.ErrArg)
	}
	r.want(fetch(1, 2, 2), paged(1, away(3, 4)...))
	for _, page := range []uint32{0, 1, 4, 258, 1<<16 + 2} {
		r.fails(fetch(1, page, 2), api.ErrArg)
	}
	r.want(fetch(1, 3, 2), paged(1, away(5, 6)...))
}

func TestErrorsOfFetch(t *testing.T) {
	r, v := withItems(t, flatConf("a"), 9)
	r.want(open("a", 0), opened(1, v))
	for _, k := range []uint16{0, api.MaxK + 1, 256, 257, math.MaxUint16} {
		r.fails(fetch(1, 1, k), api.ErrArg)
		r.fails(fetch(1, 7, k), api.ErrArg)
		r.fails(fetch(2, 1, k), api.ErrArg)
		r.failsBy(8, 0, fetch(1, 1, k), api.ErrArg)
	}
	for _, n := range []uint32{0, 2, 257, math.MaxUint32} {
		for _, page := range []uint32{0, 1, 2} {
			r.fails(fetch(n, page, 1), api.ErrCursor)
		}
	}
	for _, page := range []uint32{0, 1, 2} {
		r.failsBy(8, 0, fetch(1, page, 1), api.ErrCursor)
	}
	r.want(fetch(1, 1, 1), paged(1, away(1, 1)...))
}

func TestAFetchOfOthersIsNoUse(t *testing.T) {
	r, v := withItems(t, flatConf("a"), 9)
	r.want(open("a", 0), opened(1, v))
	r.by(7, 2, fetch(1, 1, 1), paged(1, away(1, 1)...))
	// Neither do those use it that are refused.
	r.failsBy(8, 5, fetch(1, 1, 1), api.ErrCursor)
	r.failsBy(7, 5, fetch(1, 7, 1), api.ErrArg)
	r.failsBy(7, 5, fetch(1, 1, 0), api.ErrArg)
	r.e.Tick(7)
	r.has(1, 0, 1)
	r.e.Tick(8)
	r.has(0, 0, 0)
}

func TestPagesWithAFilterAndAMetric(t *testing.T) {
	c := api.Conf{Name: "m", Dim: 2, Metric: api.Minus, Graph: true, Links: 2, Width: 4}
	r := newRig(t)
	r.ok(create(c))
	at := func(id uint32, x, y int32, tags ...string) api.Change {
		return api.Change{Item: api.Item{Id: id, Vec: []int32{x, y}, Tags: tags}}
	}
	r.want(write("m", at(1, 1, 1, "s"), at(2, 2, 2), at(3, 3, 0, "s", "t"), at(4, 0, 4, "s"), at(5, 1, 1, "s")), version(1))
	x := open("m", 2, 1)
	x.Filter = api.Filter{All: []string{"s"}, None: []string{"t"}}
	r.want(x, opened(1, 1))
	r.want(fetch(1, 1, 2), paged(1, hit(-4, 4), hit(-3, 1)))
	r.want(fetch(1, 2, 2), paged(1, hit(-3, 5)))
	x.Filter = api.Filter{Any: []string{"t", "u"}}
	r.want(x, opened(2, 1))
	r.want(fetch(2, 1, 9), paged(2, hit(-6, 3)))
	r.want(open("m", -1, 0), opened(3, 1))
	r.want(fetch(3, 1, 9), paged(3, hit(0, 4), hit(1, 1), hit(1, 5), hit(2, 2), hit(3, 3)))
}

func TestAPageWithoutHitsAheadOfOthers(t *testing.T) {
	r := newRig(t)
	r.ok(create(flatConf("a")))
	r.want(open("a", 0), opened(1, 0))
	r.want(write("a", put(1, 1)), version(1))
	r.want(fetch(1, 1, 9), paged(1))
	r.want(fetch(1, 2, 9), paged(1))
	r.want(open("a", 0), opened(2, 1))
	r.want(fetch(2, 1, 9), paged(2, hit(1, 1)))
	r.want(fetch(2, 2, 9), paged(2))
	r.want(fetch(2, 3, 9), paged(2))
}

func TestClose(t *testing.T) {
	r, v := withItems(t, graphConf("a"), 9)
	for n := uint32(1); n <= 3; n++ {
		r.want(open("a", 0), opened(n, v))
	}
	r.has(3, 0, 3)
	r.failsBy(8, 0, closing(2), api.ErrCursor)
	r.fails(closing(0), api.ErrCursor)
	r.fails(closing(4), api.ErrCursor)
	r.ok(closing(2))
	r.has(2, 0, 2)
	r.fails(closing(2), api.ErrCursor)
	r.fails(fetch(2, 1, 1), api.ErrCursor)
	r.want(fetch(1, 1, 1), paged(1, away(1, 1)...))
	r.want(fetch(3, 1, 2), paged(3, away(1, 2)...))
	r.ok(closing(1), closing(3))
	r.has(0, 0, 0)
}

func TestClosingUnpins(t *testing.T) {
	r, v := withItems(t, flatConf("a"), api.MaxItems)
	for n := uint32(1); n <= 7; n++ {
		r.want(open("a", 0), opened(n, v))
		v = r.fill("a", api.MaxItems, v+1)
	}
	r.want(open("a", 0), opened(8, v))
	r.fails(write("a", put(1, 1)), api.ErrFull)
	// Its items are what is there now: they are needed still.
	r.ok(closing(8))
	r.fails(write("a", put(1, 1)), api.ErrFull)
	r.ok(closing(4))
	r.want(write("a", put(1, 1)), version(v+1))
}

func TestACursorGoesForAnother(t *testing.T) {
	r, v := withItems(t, flatConf("a"), 9)
	used := []uint32{5, 3, 8, 3, 9, 4, 9, 9}
	for i, now := range used {
		r.by(7, now, open("a", 0), opened(uint32(i+1), v))
	}
	r.has(8, 0, 8)
	for i, goes := range []uint32{2, 4, 6, 1} {
		n := uint32(9 + i)
		r.by(8, 9, open("a", 0), opened(n, v))
		r.has(8, 0, 8)
		r.failsBy(7, 9, fetch(goes, 1, 1), api.ErrCursor)
		r.failsBy(7, 9, closing(goes), api.ErrCursor)
		r.by(8, 9, fetch(n, 1, 1), paged(n, away(1, 1)...))
	}
	for _, n := range []uint32{3, 5, 7, 8} {
		r.by(7, 9, fetch(n, 1, 1), paged(n, away(1, 1)...))
	}
	// An Open that fails lets none go.
	r.failsBy(7, 9, open("b", 0), api.ErrNone)
	r.failsBy(7, 9, open("a"), api.ErrDim)
	r.has(8, 0, 8)
}

func TestACursorThatGoesForAnotherIsUnpinned(t *testing.T) {
	r, v := withItems(t, flatConf("a"), api.MaxItems)
	for n := uint32(1); n <= 7; n++ {
		r.by(7, n, open("a", 0), opened(n, v))
		v = r.fill("a", api.MaxItems, v+1)
	}
	r.by(7, 8, open("a", 0), opened(8, v))
	r.fails(write("a", put(1, 1)), api.ErrFull)
	r.by(7, 9, open("a", 0), opened(9, v))
	r.has(8, 0, 8)
	r.want(write("a", put(1, 1)), version(v+1))
}

func TestACursorWithoutAPin(t *testing.T) {
	r, v := withItems(t, graphConf("a"), 9)
	r.ok(create(flatConf("b")))
	for n, name := range []string{"a", "b", "a", "a"} {
		r.want(open(name, 0), opened(uint32(n+1), v))
	}
	r.want(fetch(1, 1, 2), paged(1, away(1, 2)...))
	r.ok(drop("a"), create(flatConf("a")))
	r.want(write("a", put(1, 5)), version(v+1))
	r.has(4, 0, 1)
	// What is to be told first leaves it.
	r.failsBy(8, 0, fetch(1, 2, 1), api.ErrCursor)
	r.fails(fetch(1, 3, 1), api.ErrArg)
	r.fails(fetch(1, 2, 0), api.ErrArg)
	r.want(fetch(1, 2, 1), api.Message{Code: byte(api.ErrCursor)})
	r.has(3, 0, 1)
	r.fails(fetch(1, 2, 1), api.ErrCursor)
	r.fails(fetch(1, 3, 1), api.ErrCursor)
	r.fails(closing(1), api.ErrCursor)
	r.ok(closing(3))
	r.has(2, 0, 1)
	r.want(fetch(4, 1, 1), api.Message{Code: byte(api.ErrCursor)})
	r.has(1, 0, 1)
	r.want(fetch(2, 1, 1), paged(2))
	r.want(open("a", 0), opened(5, v+1))
	r.want(fetch(5, 1, 9), paged(5, hit(25, 1)))
}

// P15.2: Leave and Tick

func TestTickLetsCursorsAndTheirPinsGo(t *testing.T) {
	r, v := withItems(t, flatConf("a"), 3)
	for n, now := range []uint32{0, 1, 2, 20} {
		r.by(uint64(n), now, open("a", 0), opened(uint32(n+1), v))
	}
	r.by(1, 3, fetch(2, 1, 1), paged(2, away(1, 1)...))
	for _, x := range []struct {
		now  uint32
		left int
	}{{0, 4}, {5, 4}, {6, 3}, {7, 3}, {8, 2}, {8, 2}, {9, 1}, {25, 1}, {19, 1}, {26, 0}, {math.MaxUint32, 0}} {
		r.e.Tick(x.now)
		r.has(x.left, 0, x.left)
	}
	r.failsBy(3, 26, fetch(4, 1, 1), api.ErrCursor)
}

func TestCursorsOfOtherIdles(t *testing.T) {
	for _, idle := range []uint32{0, 1, 300, math.MaxUint32} {
		e := New(nil, idle)
		e.Do(7, 0, create(flatConf("a")))
		e.Do(7, 0, open("a", 0))
		e.Tick(idle)
		if e.Cursors() != 1 || e.Pins() != 1 {
			t.Error(idle, e.Cursors(), e.Pins())
		}
		e.Tick(idle + 1)
		if left := e.Cursors(); (left == 0) != (idle < math.MaxUint32) || e.Pins() != left {
			t.Error(idle, left, e.Pins())
		}
	}
}

func TestTickLeavesUploads(t *testing.T) {
	r, v := withItems(t, flatConf("a"), 3)
	long := r.upload(7, 1, "a", put(9, 9))
	r.want(open("a", 0), opened(1, v))
	r.e.Tick(1000)
	r.has(0, long, 0)
	r.want(commit(1), version(v+1))
}

func TestLeave(t *testing.T) {
	r, v := withItems(t, graphConf("a"), 3)
	for n, owner := range []uint64{7, 8, 7, 0, math.MaxUint64} {
		r.by(owner, 0, open("a", 0), opened(uint32(n+1), v))
	}
	r.upload(7, 1, "a", put(9, 9))
	long := r.upload(8, 2, "a", put(8, 8), put(10, 10))
	r.upload(7, 3, "a", gone(1))
	r.e.Leave(7)
	r.has(3, long, 3)
	r.e.Leave(7)
	r.e.Leave(9)
	r.has(3, long, 3)
	for _, n := range []uint32{1, 3} {
		r.fails(fetch(n, 1, 1), api.ErrCursor)
		r.fails(closing(n), api.ErrCursor)
		r.fails(chunk(n, 3, nil), api.ErrStage)
		r.fails(commit(n), api.ErrStage)
		r.fails(abort(n), api.ErrStage)
	}
	r.by(8, 0, fetch(2, 1, 1), paged(2, away(1, 1)...))
	r.by(8, 0, commit(2), version(v+1))
	r.items("a", item(1, 1), item(2, 2), item(3, 3), item(8, 8), item(10, 10))
	r.e.Leave(0)
	r.has(2, 0, 2)
	r.e.Leave(math.MaxUint64)
	r.has(1, 0, 1)
	r.by(8, 0, fetch(2, 2, 9), paged(2, away(2, 3)...))
	r.e.Leave(8)
	r.has(0, 0, 0)
}

func TestLeaveAndTickWithoutPins(t *testing.T) {
	for _, goes := range []func(e *Engine){func(e *Engine) { e.Leave(7) }, func(e *Engine) { e.Tick(100) }} {
		r, v := withItems(t, flatConf("a"), 3)
		r.ok(create(flatConf("b")))
		r.want(open("a", 0), opened(1, v))
		r.by(8, 200, open("b", 0), opened(2, v))
		r.ok(drop("a"))
		r.has(2, 0, 1)
		goes(r.e)
		r.has(1, 0, 1)
		r.by(8, 200, fetch(2, 1, 1), paged(2))
	}
}
