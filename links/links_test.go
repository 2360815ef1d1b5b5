package links

import (
	"math"
	"slices"
	"testing"

	"lodestar/api"
)

// hit gives a hit by its two numbers.
func hit(dist int64, place uint32) api.Hit {
	return api.Hit{Dist: dist, Id: place}
}

// at gives an item at a vector.
func at(vec ...int32) api.Item {
	return api.Item{Vec: vec}
}

// graph gives one of nodes of that level at one part each.
func graph(m api.Metric, level int, parts ...int32) *Graph {
	g := New(m)
	for i, x := range parts {
		g.Add(api.Item{Id: uint32(100 + i), Vec: []int32{x}}, level, uint64(i))
	}
	return g
}

// line gives a graph by Square of nodes that are on the lowest level alone.
func line(parts ...int32) *Graph {
	return graph(api.Square, 0, parts...)
}

// alike tells whether two nodes are; lists that are nil and that are empty are one and the same.
func alike(a, b api.Node) bool {
	return a.Item.Id == b.Item.Id && slices.Equal(a.Item.Vec, b.Item.Vec) && slices.Equal(a.Item.Tags, b.Item.Tags) &&
		a.From == b.From && a.Until == b.Until && slices.EqualFunc(a.Links, b.Links, slices.Equal[[]int])
}

// nodes gives all nodes of a graph.
func nodes(g *Graph) []api.Node {
	l := make([]api.Node, g.Len())
	for i := range l {
		l[i], _ = g.Node(i)
	}
	return l
}

// wantNode fails the test unless the node at i is just want.
func wantNode(t *testing.T, g *Graph, i int, want api.Node) {
	t.Helper()
	if got, ok := g.Node(i); !ok || !alike(got, want) {
		t.Errorf("Node(%d) is %v, %t, not %v", i, got, ok, want)
	}
}

// wantNodes fails the test unless the graph has just the nodes want.
func wantNodes(t *testing.T, g *Graph, want []api.Node) {
	t.Helper()
	if g.Len() != len(want) {
		t.Errorf("Len is %d, not %d", g.Len(), len(want))
	}
	for i, n := range want {
		wantNode(t, g, i, n)
	}
}

// wantLinks fails the test unless those of the node at i on that level are just want.
func wantLinks(t *testing.T, g *Graph, i, level int, want ...int) {
	t.Helper()
	n, ok := g.Node(i)
	if !ok || level >= len(n.Links) || !slices.Equal(n.Links[level], want) {
		t.Errorf("the node %d is %v, %t: on the level %d it hasn't the links %v", i, n, ok, level, want)
	}
}

// noPlaces gives numbers that are no places of a graph of n nodes.
func noPlaces(n int) []int {
	return []int{math.MinInt, -1 << 32, -2, -1, n, n + 1, 1 << 31, 1 << 32, 1<<32 + 1, math.MaxInt}
}

func TestTheChaptersExamples(t *testing.T) {
	g := line(0, 10, 11)
	all := []int{0, 1, 2}
	wantChoose(t, g, []int32{9}, all, 1, 1)
	wantChoose(t, g, []int32{9}, all, 2, 1, 0)
	wantChoose(t, g, []int32{9}, all, 3, 1, 0, 2)
	wantChoose(t, g, []int32{5}, all, 2, 0, 1)
}

// P11.1

func TestAGraphWithoutNodes(t *testing.T) {
	for _, m := range []api.Metric{api.Square, api.Minus, 2, 255} {
		g := New(m)
		for _, i := range append(noPlaces(0), 1) {
			if n, ok := g.Node(i); ok || !alike(n, api.Node{}) {
				t.Errorf("Node(%d) is %v, %t", i, n, ok)
			}
			if g.Until(i, 3) {
				t.Errorf("Until(%d) is true", i)
			}
			for level := -1; level <= api.MaxLevel+1; level++ {
				if g.Link(i, 0, level, 4) || g.Link(0, i, level, 4) {
					t.Errorf("Link of %d and 0 on the level %d is true", i, level)
				}
				wantWalk(t, g, []int32{1}, []int{i, 0}, 3, level)
			}
			wantNear(t, g, []int32{1}, []int{i, 0})
			wantChoose(t, g, []int32{1}, []int{i, 0}, 3)
		}
		wantNear(t, g, nil, nil)
		wantChoose(t, g, nil, nil, 1)
		wantWalk(t, g, nil, nil, 1, 0)
		if g.Len() != 0 {
			t.Errorf("Len is %d", g.Len())
		}
	}
}

func TestPlacesAreInTheOrderOfAdding(t *testing.T) {
	g := New(api.Square)
	for i := range 700 {
		if g.Len() != i {
			t.Errorf("Len is %d, not %d", g.Len(), i)
		}
		if got := g.Add(api.Item{Id: uint32(9000 - i)}, i%5, 1); got != i {
			t.Errorf("the place is %d, not %d", got, i)
		}
	}
	for i := range 700 {
		if n, ok := g.Node(i); !ok || n.Item.Id != uint32(9000-i) || len(n.Links) != i%5+1 {
			t.Errorf("Node(%d) is %v, %t", i, n, ok)
		}
	}
}

func TestANodeIsAsItWasAdded(t *testing.T) {
	items := []api.Item{
		{Id: 7, Vec: []int32{1, 2}, Tags: []string{"a", "b"}},
		{Id: 7, Vec: []int32{1, 2}, Tags: []string{"a", "b"}},
		{Id: 0}, {Id: math.MaxUint32, Vec: []int32{}, Tags: []string{}},
		{Id: 1, Vec: []int32{1<<20 + 1, math.MinInt32}, Tags: []string{"b", "", "b", "a"}},
		{Id: 2, Vec: make([]int32, 17), Tags: make([]string, 9)},
	}
	g := New(api.Minus)
	var want []api.Node
	for i, x := range items {
		for _, v := range []uint64{0, 1, 5, 3, math.MaxUint64} {
			g.Add(x, i, v)
			want = append(want, api.Node{Item: x, From: v, Links: make([][]int, min(i, 4)+1)})
		}
	}
	wantNodes(t, g, want)
}

func TestLevelsAreBroughtToTheirRange(t *testing.T) {
	for _, c := range []struct{ level, lists int }{
		{math.MinInt, 1}, {-1 << 32, 1}, {-1, 1}, {0, 1}, {1, 2}, {2, 3}, {3, 4},
		{api.MaxLevel, 5}, {api.MaxLevel + 1, 5}, {100, 5}, {1 << 32, 5}, {1<<32 + 1, 5}, {math.MaxInt, 5},
	} {
		g := New(api.Square)
		g.Add(at(1), c.level, 1)
		g.Add(at(2), api.MaxLevel, 1)
		wantNode(t, g, 0, api.Node{Item: at(1), From: 1, Links: make([][]int, c.lists)})
		for level := -1; level <= api.MaxLevel+1; level++ {
			want := level >= 0 && level < c.lists
			if got := g.Link(0, 1, level, 4); got != want {
				t.Errorf("level %d: Link on %d is %t", c.level, level, got)
			}
			if got := len(g.Walk([]int32{1}, []int{0}, 1, level)) == 1; got != want {
				t.Errorf("level %d: Walk on %d finds it: %t", c.level, level, got)
			}
		}
	}
}

func TestThereIsNoNodeAtNoPlace(t *testing.T) {
	g := graph(api.Square, 2, 5, 6, 7)
	want := nodes(g)
	for _, i := range noPlaces(3) {
		if n, ok := g.Node(i); ok || !alike(n, api.Node{}) || n.Links != nil {
			t.Errorf("Node(%d) is %v, %t", i, n, ok)
		}
		if g.Until(i, 3) {
			t.Errorf("Until(%d) is true", i)
		}
	}
	wantNodes(t, g, want)
}

func TestUntil(t *testing.T) {
	g := line(5, 6, 7)
	want := nodes(g)
	for _, i := range []int{0, 2, 1, 0} {
		for _, v := range []uint64{9, 3, 0, math.MaxUint64, 1} {
			if !g.Until(i, v) {
				t.Errorf("Until(%d, %d) is false", i, v)
			}
			want[i].Until = v
			wantNodes(t, g, want)
		}
	}
}

func TestANodeThatIsntThereAnyMoreIsStillGoneTo(t *testing.T) {
	g := line(0, 1, 2)
	g.Until(1, 1)
	wantNear(t, g, []int32{1}, []int{0, 1, 2}, hit(0, 1), hit(1, 0), hit(1, 2))
	wantWalk(t, g, []int32{2}, []int{0}, 3, 0, hit(0, 2), hit(1, 1), hit(4, 0))
	if !g.Link(0, 1, 0, 4) || !g.Link(1, 2, 0, 4) {
		t.Error("it isn't linked")
	}
}

// P11.3

// link links a to each of the others, and fails the test if one isn't.
func link(t *testing.T, g *Graph, level, most, a int, others ...int) {
	t.Helper()
	for _, b := range others {
		if !g.Link(a, b, level, most) {
			t.Errorf("Link(%d, %d, %d, %d) is false", a, b, level, most)
		}
	}
}

func TestLinksStandInTheOrderOfLinking(t *testing.T) {
	g := line(0, 1, 2, 3, 4)
	for i, b := range []int{3, 1, 4, 0} {
		link(t, g, 0, 4, 2, b)
		wantLinks(t, g, 2, 0, []int{3, 1, 4, 0}[:i+1]...)
	}
	for _, i := range []int{0, 1, 3, 4} {
		wantLinks(t, g, i, 0)
	}
}

func TestTheSpineIsNoLink(t *testing.T) {
	g := line(0, 1, 2)
	link(t, g, 0, 4, 1, 2, 0)
	wantLinks(t, g, 0, 0)
	wantLinks(t, g, 1, 0, 2, 0)
	wantLinks(t, g, 2, 0)
}

func TestALevelHasLinksOfItsOwn(t *testing.T) {
	g := graph(api.Square, 4, 0, 1, 2, 3, 4, 5)
	for level := range 5 {
		link(t, g, level, 4, 0, level+1)
	}
	link(t, g, 3, 4, 0, 5, 1)
	wantNode(t, g, 0, api.Node{Item: api.Item{Id: 100, Vec: []int32{0}}, Links: [][]int{{1}, {2}, {3}, {4, 5, 1}, {5}}})
}

func TestWhatIsntLinked(t *testing.T) {
	g := graph(api.Square, 1, 0, 1)
	g.Add(at(2), 0, 1)
	g.Add(at(3), 4, 1)
	link(t, g, 0, 4, 0, 1, 2)
	link(t, g, 1, 4, 0, 3)
	want := nodes(g)
	for _, most := range []int{math.MinInt, 0, 1, 4} {
		for i := range g.Len() {
			for _, j := range append(noPlaces(4), i) {
				for level := -1; level <= api.MaxLevel+1; level++ {
					wantNoLink(t, g, i, j, level, most)
					wantNoLink(t, g, j, i, level, most)
				}
			}
			for _, level := range []int{math.MinInt, -1 << 32, -1, api.MaxLevel + 1, 1 << 32, math.MaxInt} {
				wantNoLink(t, g, i, (i+1)%4, level, most)
			}
		}
		for level := 1; level <= api.MaxLevel; level++ {
			wantNoLink(t, g, 2, 0, level, most)
			wantNoLink(t, g, 0, 2, level, most)
			wantNoLink(t, g, 2, 3, level, most)
			wantNoLink(t, g, 3, 2, level, most)
		}
		for level := 2; level <= api.MaxLevel; level++ {
			wantNoLink(t, g, 0, 3, level, most)
			wantNoLink(t, g, 3, 0, level, most)
			wantNoLink(t, g, 0, 1, level, most)
		}
	}
	wantNodes(t, g, want)
}

func wantNoLink(t *testing.T, g *Graph, a, b, level, most int) {
	t.Helper()
	if g.Link(a, b, level, most) {
		t.Errorf("Link(%d, %d, %d, %d) is true", a, b, level, most)
	}
}

func TestOneThatIsLinkedAlreadyStaysWhereItIs(t *testing.T) {
	g := line(0, 1, 2, 3)
	link(t, g, 0, 4, 0, 2, 1, 3)
	link(t, g, 0, 4, 0, 2, 1, 2)
	wantLinks(t, g, 0, 0, 2, 1, 3)
	link(t, g, 0, 3, 0, 2)
	wantLinks(t, g, 0, 0, 2, 1, 3)
}

func TestAsManyLinksAsMostStayInTheirOrder(t *testing.T) {
	g := line(0, 4, 2, 1, 3)
	link(t, g, 0, 4, 0, 1, 2, 3, 4)
	wantLinks(t, g, 0, 0, 1, 2, 3, 4)
}

func TestOneLinkMoreThanMost(t *testing.T) {
	// From 10 the nearest is 11; 13 is nearer to it than to 10; 6 isn't.
	g := line(10, 13, 6, 11)
	link(t, g, 0, 2, 0, 1, 2)
	wantLinks(t, g, 0, 0, 1, 2)
	link(t, g, 0, 2, 0, 3)
	wantLinks(t, g, 0, 0, 3, 2)
	link(t, g, 0, 2, 0, 1)
	wantLinks(t, g, 0, 0, 3, 2)
	link(t, g, 0, 3, 0, 1)
	wantLinks(t, g, 0, 0, 3, 2, 1)
}

func TestTheOneThatIsLinkedMayGoAtOnce(t *testing.T) {
	g := line(0, 1, 2)
	link(t, g, 0, 1, 0, 1, 2)
	wantLinks(t, g, 0, 0, 1)
	link(t, g, 0, 1, 2, 0, 1)
	wantLinks(t, g, 2, 0, 1)
}

func TestLinksArePassedOverWhereThereAreTooMany(t *testing.T) {
	// 1, 2 and 3 lie one behind the other; -4 lies alone, but is farther than they.
	g := line(0, 3, 2, -4, 1)
	link(t, g, 0, 3, 0, 1, 2, 3, 4)
	wantLinks(t, g, 0, 0, 4, 3, 2)
}

func TestFewerAreAllowedThanThereWere(t *testing.T) {
	// 1 and -2 aren't nearer to one another than to 0; 3 is nearer to 1, and -4 to -2.
	for _, c := range []struct {
		most int
		want []int
	}{{4, []int{4, 3, 2, 1}}, {3, []int{1, 2, 3}}, {2, []int{1, 2}}, {1, []int{1}}, {0, nil}, {-1, nil}} {
		g := line(0, 1, -2, 3, -4)
		link(t, g, 0, 4, 0, 4, 3, 2, 1)
		link(t, g, 0, c.most, 0, 2)
		wantLinks(t, g, 0, 0, c.want...)
	}
}

func TestMostBelowOne(t *testing.T) {
	for _, most := range []int{0, -1, -1 << 32, math.MinInt} {
		g := graph(api.Square, 1, 0, 1, 2)
		link(t, g, 0, most, 0, 1)
		wantLinks(t, g, 0, 0)
		link(t, g, 0, 4, 0, 1, 2)
		link(t, g, 1, 4, 0, 1, 2)
		link(t, g, 0, most, 0, 2)
		wantLinks(t, g, 0, 0)
		wantLinks(t, g, 0, 1, 1, 2)
	}
}

func TestGreatMosts(t *testing.T) {
	g := New(api.Square)
	var want []int
	for i := range 400 {
		g.Add(at(int32(i)), 0, 1)
	}
	for i := 399; i > 0; i-- {
		link(t, g, 0, math.MaxInt, 0, i)
		want = append(want, i)
	}
	wantLinks(t, g, 0, 0, want...)
	link(t, g, 0, 399, 0, 7)
	wantLinks(t, g, 0, 0, want...)
	link(t, g, 0, 398, 0, 7)
	slices.Reverse(want)
	wantLinks(t, g, 0, 0, want[:398]...)
}

func TestLinksAreChosenByEachMetric(t *testing.T) {
	for _, c := range []struct {
		m    api.Metric
		want []int
	}{{api.Square, []int{3, 2}}, {api.Minus, []int{1, 2}}, {2, []int{1, 2}}, {255, []int{1, 2}}} {
		g := graph(c.m, 0, 2, 9, -1, 3)
		link(t, g, 0, 2, 0, 3, 2, 1)
		wantLinks(t, g, 0, 0, c.want...)
	}
}
