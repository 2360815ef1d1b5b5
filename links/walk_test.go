package links

import (
	"math"
	"slices"
	"testing"

	"lodestar/api"
)

// wantWalk fails the test unless Walk gives just want.
func wantWalk(t *testing.T, g *Graph, q []int32, from []int, width, level int, want ...api.Hit) {
	t.Helper()
	if got := g.Walk(q, from, width, level); !slices.Equal(got, want) {
		t.Errorf("Walk(%v, %v, %d, %d) is %v, not %v", q, from, width, level, got, want)
	}
}

// squares gives the hits for (0) of a row of nodes at 0, 1, 2 and so on.
func squares(n int) []api.Hit {
	l := make([]api.Hit, n)
	for i := range l {
		l[i] = hit(int64(i)*int64(i), uint32(i))
	}
	return l
}

// row gives a graph by Square of n nodes at 0, 1, 2 and so on.
func row(level, n int) *Graph {
	g := New(api.Square)
	for i := range n {
		g.Add(at(int32(i)), level, 1)
	}
	return g
}

// P11.4

func TestAlongTheSpine(t *testing.T) {
	g := row(0, 50)
	for from := range 50 {
		for to := range 50 {
			wantWalk(t, g, []int32{int32(to)}, []int{from}, 1, 0, hit(0, uint32(to)))
		}
	}
}

func TestTheSpineHasTwoSides(t *testing.T) {
	g := line(3, 0, 5)
	// Both are met from the middle, though both are farther, while there are fewer best ones than width.
	wantWalk(t, g, []int32{0}, []int{1}, 3, 0, hit(0, 1), hit(9, 0), hit(25, 2))
	wantWalk(t, g, []int32{0}, []int{1}, 2, 0, hit(0, 1), hit(9, 0))
	wantWalk(t, g, []int32{0}, []int{1}, 1, 0, hit(0, 1))
	wantWalk(t, g, []int32{3}, []int{1}, 1, 0, hit(0, 0))
	wantWalk(t, g, []int32{5}, []int{1}, 1, 0, hit(0, 2))
}

func TestTheSpineGoesThroughNodesOfAllLevels(t *testing.T) {
	g := New(api.Square)
	for i, level := range []int{0, 4, 1, 0, 2, 3} {
		g.Add(at(int32(i)), level, 1)
	}
	wantWalk(t, g, []int32{0}, []int{5}, 1, 0, hit(0, 0))
	wantWalk(t, g, []int32{0}, []int{3}, 6, 0, squares(6)...)
}

func TestThereIsNoSpineOnTheLevelsAbove(t *testing.T) {
	g := row(4, 5)
	link(t, g, 0, 4, 2, 3, 1)
	for level := 1; level <= api.MaxLevel; level++ {
		for i := range 5 {
			wantWalk(t, g, []int32{0}, []int{i}, 5, level, hit(int64(i*i), uint32(i)))
		}
		wantWalk(t, g, []int32{0}, []int{4, 1}, 5, level, hit(1, 1), hit(16, 4))
	}
	wantWalk(t, g, []int32{0}, []int{2}, 5, 0, squares(5)...)
}

func TestLinksAreGoneOneWayAndOnTheirLevelAlone(t *testing.T) {
	g := row(2, 6)
	link(t, g, 1, 4, 0, 2)
	link(t, g, 1, 4, 2, 5)
	link(t, g, 2, 4, 0, 4)
	wantWalk(t, g, []int32{0}, []int{0}, 6, 1, hit(0, 0), hit(4, 2), hit(25, 5))
	wantWalk(t, g, []int32{0}, []int{2}, 6, 1, hit(4, 2), hit(25, 5))
	wantWalk(t, g, []int32{0}, []int{5}, 6, 1, hit(25, 5))
	wantWalk(t, g, []int32{0}, []int{0}, 6, 2, hit(0, 0), hit(16, 4))
	wantWalk(t, g, []int32{0}, []int{0}, 6, 3)
	wantWalk(t, g, []int32{0}, []int{0}, 6, 4)
}

func TestLinksAreGoneOnTheLowestLevelToo(t *testing.T) {
	// From 0 to 6, past three nodes that are farther.
	g := line(10, 30, 30, 30, 1, 30)
	wantWalk(t, g, []int32{0}, []int{0}, 1, 0, hit(100, 0))
	link(t, g, 0, 4, 0, 5, 4)
	wantWalk(t, g, []int32{0}, []int{0}, 1, 0, hit(1, 4))
	wantWalk(t, g, []int32{0}, []int{5}, 1, 0, hit(1, 4))
}

func TestAllLinksAreGoneHoweverMany(t *testing.T) {
	for _, level := range []int{0, 1, api.MaxLevel} {
		for _, n := range []int{8, 9, 16, 17, 100, 256} {
			g := New(api.Square)
			for i := range n {
				g.Add(at(int32(i)), level, 1)
			}
			for i := n - 1; i > 0; i-- {
				link(t, g, level, n, 0, i)
			}
			wantWalk(t, g, []int32{0}, []int{0}, n, level, squares(n)...)
			wantWalk(t, g, []int32{1}, []int{0}, 1, level, hit(0, 1))
			wantWalk(t, g, []int32{int32(n - 1)}, []int{0}, 1, level, hit(0, uint32(n-1)))
		}
	}
}

func TestFromNowhere(t *testing.T) {
	g := New(api.Square)
	for i, level := range []int{0, 1, 2, 0} {
		g.Add(at(int32(i)), level, 1)
	}
	link(t, g, 1, 4, 2, 1)
	for _, width := range []int{math.MinInt, 0, 1, 4, 256, math.MaxInt} {
		for level := -1; level <= api.MaxLevel+1; level++ {
			wantWalk(t, g, []int32{0}, nil, width, level)
			wantWalk(t, g, []int32{0}, []int{}, width, level)
			wantWalk(t, g, []int32{0}, noPlaces(4), width, level)
		}
		for _, level := range []int{math.MinInt, -1 << 32, -1, 3, 4, 5, 1 << 32, 1<<32 + 1, math.MaxInt} {
			wantWalk(t, g, []int32{0}, upTo(4), width, level)
		}
		wantWalk(t, g, []int32{0}, []int{0, 3, 0}, width, 1)
		wantWalk(t, g, []int32{0}, []int{0, 1, 3}, width, 2)
	}
}

func TestFromPlacesOfWhichSomeArent(t *testing.T) {
	g := New(api.Square)
	for i, level := range []int{0, 1, 2, 0, 1} {
		g.Add(at(int32(i)), level, 1)
	}
	from := append(noPlaces(5), 3, 2, 0, 3)
	wantWalk(t, g, []int32{0}, from, 5, 1, hit(4, 2))
	wantWalk(t, g, []int32{0}, append(from, 4, 1, 4), 5, 1, hit(1, 1), hit(4, 2), hit(16, 4))
	wantWalk(t, g, []int32{0}, from, 5, 2, hit(4, 2))
	wantWalk(t, g, []int32{0}, from, 5, 0, squares(5)...)
}

func TestFromOnePlaceMoreThanOnce(t *testing.T) {
	g := row(1, 4)
	wantWalk(t, g, []int32{0}, []int{2, 2, 2}, 3, 1, hit(4, 2))
	wantWalk(t, g, []int32{0}, []int{2, 3, 2, 3, 3}, 3, 1, hit(4, 2), hit(9, 3))
	wantWalk(t, g, []int32{0}, []int{2, 3, 2, 3, 3}, 1, 1, hit(4, 2))
	wantWalk(t, g, []int32{0}, []int{1, 1, 3, 3}, 4, 0, squares(4)...)
}

func TestFromMorePlacesThanWidth(t *testing.T) {
	g := row(1, 300)
	for _, width := range []int{1, 2, 3, 299} {
		wantWalk(t, g, []int32{0}, []int{9, 4, 7, 2, 5}, width, 1, []api.Hit{hit(4, 2), hit(16, 4), hit(25, 5), hit(49, 7), hit(81, 9)}[:min(width, 5)]...)
	}
	for _, width := range []int{1, 2, 255, 256, 257, 300} {
		wantWalk(t, g, []int32{0}, upTo(300), width, 1, squares(min(width, 256))...)
	}
}

func TestWidthIsBroughtToItsRange(t *testing.T) {
	g := row(0, 300)
	for _, c := range []struct{ width, found int }{
		{math.MinInt, 1}, {-1 << 32, 1}, {-256, 1}, {-1, 1}, {0, 1}, {1, 1}, {2, 2}, {255, 255},
		{256, 256}, {257, 256}, {299, 256}, {300, 256}, {301, 256}, {1 << 16, 256}, {1 << 32, 256}, {1<<32 + 1, 256}, {math.MaxInt, 256},
	} {
		wantWalk(t, g, []int32{0}, []int{299}, c.width, 0, squares(c.found)...)
		wantWalk(t, g, []int32{0}, []int{0, 150}, c.width, 0, squares(c.found)...)
	}
}

func TestWidthsOfAsManyAsThereAreAndMore(t *testing.T) {
	for _, n := range []int{1, 2, 7, 255, 256} {
		g := row(0, n)
		for _, width := range []int{n, n + 1, 256, 257, math.MaxInt} {
			for _, from := range []int{0, n / 2, n - 1} {
				wantWalk(t, g, []int32{0}, []int{from}, width, 0, squares(n)...)
			}
		}
	}
}

func TestItEndsAheadOfMeetingAll(t *testing.T) {
	// The last one lies at q itself, behind two that are far.
	g := line(1, 8, 9, 0)
	wantWalk(t, g, []int32{0}, []int{0}, 1, 0, hit(1, 0))
	// With 2 the one at 8 is among the best, and gone on from; the one at 9 isn't nearer.
	wantWalk(t, g, []int32{0}, []int{0}, 2, 0, hit(1, 0), hit(64, 1))
	// With 3 the one at 9 is among the best too, and it brings the last one, and that the worst one out.
	wantWalk(t, g, []int32{0}, []int{0}, 3, 0, hit(0, 3), hit(1, 0), hit(64, 1))
	wantWalk(t, g, []int32{0}, []int{0}, 4, 0, hit(0, 3), hit(1, 0), hit(64, 1), hit(81, 2))
}

func TestItGoesOnFromTheWorstOfTheBest(t *testing.T) {
	// The one at 8 is the worst one of the best when it is taken, but not worse than itself.
	g := line(1, 8, 0)
	wantWalk(t, g, []int32{0}, []int{0}, 2, 0, hit(0, 2), hit(1, 0))
	wantWalk(t, g, []int32{0}, []int{0}, 1, 0, hit(1, 0))
}

func TestItIsntGoneOnFromAPlaceThatIsntOneOfTheBest(t *testing.T) {
	// From the first, which isn't near, a link goes to q itself.
	g := graph(api.Square, 1, 10, 1, 0, 2)
	link(t, g, 1, 4, 0, 2)
	wantWalk(t, g, []int32{0}, []int{0, 1}, 1, 1, hit(1, 1))
	wantWalk(t, g, []int32{0}, []int{1, 0}, 1, 1, hit(1, 1))
	wantWalk(t, g, []int32{0}, []int{1, 0}, 2, 1, hit(0, 2), hit(1, 1))
	wantWalk(t, g, []int32{0}, []int{3, 1, 0}, 2, 1, hit(1, 1), hit(4, 3))
	wantWalk(t, g, []int32{0}, []int{3, 1, 0}, 3, 1, hit(0, 2), hit(1, 1), hit(4, 3))
}

func TestOneThatWaitsAndIsNoLongerOneOfTheBest(t *testing.T) {
	// From 20 one meets 9, 8 and 3, in turn; 9 leads to 0, 8 to 1. With 2 nine goes out as three comes in, and what it leads to isn't met.
	for _, c := range []struct {
		width int
		want  []api.Hit
	}{
		{1, []api.Hit{hit(9, 3)}},
		{2, []api.Hit{hit(1, 5), hit(9, 3)}},
		{3, []api.Hit{hit(1, 5), hit(9, 3), hit(64, 2)}},
		{4, []api.Hit{hit(0, 4), hit(1, 5), hit(9, 3), hit(64, 2)}},
	} {
		for _, order := range [][]int{{1, 2, 3}, {3, 2, 1}, {2, 3, 1}, {1, 3, 2}} {
			g := graph(api.Square, 1, 20, 9, 8, 3, 0, 1)
			link(t, g, 1, 4, 0, order...)
			link(t, g, 1, 4, 1, 4)
			link(t, g, 1, 4, 2, 5)
			wantWalk(t, g, []int32{0}, []int{0}, c.width, 1, c.want...)
		}
	}
}

func TestTheNearestIsTakenFirst(t *testing.T) {
	// With 2 those at 5 and 6 are the best; from 5, the nearer one, one comes to 1 and 2, and 6 isn't gone on from.
	g := graph(api.Square, 1, 5, 6, 1, 2, 0)
	link(t, g, 1, 4, 0, 2, 3)
	link(t, g, 1, 4, 1, 4)
	wantWalk(t, g, []int32{0}, []int{1, 0}, 2, 1, hit(1, 2), hit(4, 3))
	wantWalk(t, g, []int32{0}, []int{0, 1}, 2, 1, hit(1, 2), hit(4, 3))
	wantWalk(t, g, []int32{0}, []int{0, 1}, 3, 1, hit(1, 2), hit(4, 3), hit(25, 0))
	wantWalk(t, g, []int32{0}, []int{0, 1}, 4, 1, hit(0, 4), hit(1, 2), hit(4, 3), hit(25, 0))
}

func TestEquallyFarTheOneOfTheLesserPlaceIsNearer(t *testing.T) {
	g := line(1, -1, 1, -1, 1)
	for i := range 5 {
		wantWalk(t, g, []int32{0}, []int{i}, 1, 0, hit(1, 0))
		wantWalk(t, g, []int32{0}, []int{i}, 3, 0, hit(1, 0), hit(1, 1), hit(1, 2))
	}
	// On a level above: one of a greater place isn't met for good.
	g = graph(api.Square, 1, 1, 1, -1, 0)
	link(t, g, 1, 4, 1, 2)
	link(t, g, 1, 4, 2, 3)
	wantWalk(t, g, []int32{0}, []int{1}, 1, 1, hit(1, 1))
	link(t, g, 1, 4, 1, 0)
	link(t, g, 1, 4, 0, 3)
	wantWalk(t, g, []int32{0}, []int{1}, 1, 1, hit(0, 3))
}

func TestWalkingByEachMetric(t *testing.T) {
	parts := []int32{2, 4, 1, -3, 0}
	for _, c := range []struct {
		m    api.Metric
		all  []api.Hit
		from []api.Hit // the best one with a width of 1, from each place
	}{
		{api.Square, []api.Hit{hit(0, 0), hit(1, 2), hit(4, 1), hit(4, 4), hit(25, 3)}, []api.Hit{hit(0, 0), hit(0, 0), hit(1, 2), hit(1, 2), hit(4, 4)}},
		{api.Minus, []api.Hit{hit(-8, 1), hit(-4, 0), hit(-2, 2), hit(0, 4), hit(6, 3)}, []api.Hit{hit(-8, 1), hit(-8, 1), hit(-8, 1), hit(-8, 1), hit(0, 4)}},
		{2, []api.Hit{hit(0, 0), hit(0, 1), hit(0, 2), hit(0, 3), hit(0, 4)}, slices.Repeat([]api.Hit{hit(0, 0)}, 5)},
		{255, []api.Hit{hit(0, 0), hit(0, 1), hit(0, 2), hit(0, 3), hit(0, 4)}, slices.Repeat([]api.Hit{hit(0, 0)}, 5)},
	} {
		g := graph(c.m, 0, parts...)
		for i := range parts {
			wantWalk(t, g, []int32{2}, []int{i}, 5, 0, c.all...)
			wantWalk(t, g, []int32{2}, []int{i}, 1, 0, c.from[i])
		}
	}
}

func TestWalkingWhereItCantBeToldHowFar(t *testing.T) {
	beyond := int32(api.MaxPart + 1)
	g := line(2, 3, beyond, 1)
	// The one that may not be is 0 far: it is found, and the walk goes through it.
	wantWalk(t, g, []int32{1}, []int{0}, 4, 0, hit(0, 2), hit(0, 3), hit(1, 0), hit(4, 1))
	wantWalk(t, g, []int32{1}, []int{1}, 1, 0, hit(0, 2))
	wantWalk(t, g, []int32{1}, []int{3}, 1, 0, hit(0, 2))
	for _, q := range [][]int32{nil, {}, {beyond}, {1, 2}, make([]int32, 17)} {
		wantWalk(t, g, q, []int{3}, 1, 0, hit(0, 0))
		wantWalk(t, g, q, []int{1, 3}, 3, 0, hit(0, 0), hit(0, 1), hit(0, 2))
		wantWalk(t, g, q, []int{2}, 9, 0, hit(0, 0), hit(0, 1), hit(0, 2), hit(0, 3))
	}
}

func TestWalkingChangesNothing(t *testing.T) {
	g := row(2, 9)
	link(t, g, 0, 4, 0, 5, 7)
	link(t, g, 1, 4, 3, 2, 8)
	want := nodes(g)
	for level := range 4 {
		first := g.Walk([]int32{4}, []int{8, 3}, 4, level)
		wantWalk(t, g, []int32{4}, []int{8, 3}, 4, level, first...)
	}
	wantNodes(t, g, want)
}
