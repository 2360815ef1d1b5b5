package links

import (
	"math"
	"slices"
	"testing"

	"lodestar/api"
)

// P11.5

// wantSound fails the test if a link goes to a node that isn't on its level, to oneself, or is there twice.
func wantSound(t *testing.T, g *Graph) {
	t.Helper()
	all := nodes(g)
	for i, n := range all {
		for level, l := range n.Links {
			for k, b := range l {
				if b < 0 || b >= len(all) || len(all[b].Links) <= level || b == i || slices.Contains(l[:k], b) {
					t.Errorf("the node %d has on the level %d the links %v", i, level, l)
				}
			}
		}
	}
}

// wantAllFound fails the test unless all are found from the places of from on the lowest level, with a width of as many as there are nodes.
func wantAllFound(t *testing.T, g *Graph, q []int32, from []int) {
	t.Helper()
	wantWalk(t, g, q, from, g.Len(), 0, g.Near(q, upTo(g.Len()))...)
}

func TestLinksAreSoundAndAllAreFoundWhateverIsDone(t *testing.T) {
	for seed := range source(60) {
		s := seed
		b := newBoth(api.Metric(s.below(20)) % 3)
		b.grow(t, &s)
		for range 20 {
			for range 30 {
				b.change(t, &s)
			}
			wantSound(t, b.Graph)
			for i := range b.Len() {
				wantAllFound(t, b.Graph, s.vec(), []int{i})
			}
			wantAllFound(t, b.Graph, s.vec(), append(s.places(b.Len(), 5), s.below(b.Len())))
		}
	}
}

func TestAsManyAsMaxWidthAreAllFound(t *testing.T) {
	s := source(7)
	b := newBoth(api.Square)
	for b.Len() < api.MaxWidth {
		b.nest(t, &s, 4, 4)
	}
	wantSound(t, b.Graph)
	for i := range b.Len() {
		wantAllFound(t, b.Graph, s.vec(), []int{i})
	}
}

func TestFromAnywhereOnALevelAboveWhatLinksLeadToIsFound(t *testing.T) {
	g := row(3, 12)
	for i := range 12 {
		link(t, g, 3, 4, i, (i+5)%12)
	}
	for i := range 12 {
		wantWalk(t, g, []int32{0}, []int{i}, 12, 3, squares(12)...)
	}
}

// The rules that hold everywhere

// whole gives a list with its spare room.
func whole[T any](l []T) []T {
	return l[:cap(l)]
}

// fill writes x over a list, and over its spare room.
func fill[T any](l []T, x T) {
	for i := range whole(l) {
		whole(l)[i] = x
	}
}

// fillNode writes over all lists of a node.
func fillNode(n api.Node) {
	fill(n.Item.Vec, 77)
	fill(n.Item.Tags, "over")
	for _, l := range n.Links {
		fill(l, -7)
	}
	fill(n.Links, []int{66})
}

// some gives a graph of several levels, with links, and items that have tags.
func some() *Graph {
	g := New(api.Square)
	for i, x := range []int32{5, 0, 9, 2, 2, 7, 1, 4} {
		g.Add(api.Item{Id: uint32(i), Vec: []int32{x, -x}, Tags: []string{"a", "b"}}, i%3, 1)
	}
	s := source(3)
	for range 60 {
		g.Link(s.below(8), s.below(8), s.below(3), 3)
	}
	return g
}

// wantAsSome fails the test unless g is as some gives it, and tells the same, now and when more is done.
func wantAsSome(t *testing.T, g *Graph) {
	t.Helper()
	want := some()
	for range 2 {
		wantNodes(t, g, nodes(want))
		q, l := []int32{3, 1}, []int{7, 2, 2, 0, 9, 4}
		wantNear(t, g, q, l, want.Near(q, l)...)
		for level := range 3 {
			wantChoose(t, g, q, l, level+1, want.Choose(q, l, level+1)...)
			wantWalk(t, g, q, l, level+2, level, want.Walk(q, l, level+2, level)...)
		}
		for _, g := range []*Graph{g, want} {
			x := api.Item{Id: 9, Vec: []int32{3, 3}, Tags: []string{"c"}}
			g.Link(1, g.Add(x, 1, 5), 1, 2)
			g.Link(g.Len()-1, 4, 1, 2)
			g.Link(2, 5, 2, 8)
		}
	}
}

func TestTheSameIsToldOfWhatTheSameWasDoneTo(t *testing.T) {
	for range 3 {
		wantAsSome(t, some())
	}
}

func TestAnItemThatWasHandedInMayBeWrittenOver(t *testing.T) {
	for _, level := range []int{0, 4} {
		vecs, tags := []int32{1, 2, 3, 4}, []string{"a", "b", "c", "d"}
		x := api.Item{Id: 1, Vec: vecs[1:3], Tags: tags[1:2]}
		g := New(api.Square)
		g.Add(x, level, 1)
		g.Add(x, level, 1)
		if !slices.Equal(vecs, []int32{1, 2, 3, 4}) || !slices.Equal(tags, []string{"a", "b", "c", "d"}) {
			t.Errorf("they have become %v and %q", vecs, tags)
		}
		fill(vecs, 9)
		fill(tags, "over")
		for i := range 2 {
			wantNode(t, g, i, api.Node{Item: api.Item{Id: 1, Vec: []int32{2, 3}, Tags: []string{"b"}}, From: 1, Links: make([][]int, level+1)})
		}
		wantNear(t, g, []int32{2, 3}, []int{0, 1}, hit(0, 0), hit(0, 1))
	}
}

func TestANodeThatWasToldMayBeWrittenOver(t *testing.T) {
	g := some()
	for i := range g.Len() {
		first, _ := g.Node(i)
		second, _ := g.Node(i)
		want, _ := some().Node(i)
		for level, l := range first.Links {
			first.Links[level] = append(l, 5)
			fill(l, 5)
		}
		fillNode(first)
		if !alike(second, want) {
			t.Errorf("two answers of Node(%d) share memory", i)
		}
	}
	wantAsSome(t, g)
}

func TestListsOfOneNodeShareNoMemory(t *testing.T) {
	g := row(4, 6)
	for level := range 5 {
		link(t, g, level, 4, 0, level+1)
	}
	n, _ := g.Node(0)
	for level, l := range n.Links {
		n.Links[level] = append(l, 9, 9, 9)
	}
	for level, l := range n.Links {
		if !slices.Equal(l, []int{level + 1, 9, 9, 9}) {
			t.Errorf("on the level %d stands %v", level, l)
		}
	}
}

func TestANodeThatWasToldStaysAsItWas(t *testing.T) {
	g := some()
	told := nodes(g)
	for i := range g.Len() {
		g.Until(i, 99)
		for j := range g.Len() {
			for level := range 3 {
				g.Link(i, j, level, 1+j%3)
			}
		}
	}
	for i, n := range nodes(some()) {
		if !alike(told[i], n) {
			t.Errorf("%v has become %v", n, told[i])
		}
	}
}

// handed is what asking calls are handed, with spare room in each list.
type handed struct {
	q []int32
	l []int
}

func newHanded() handed {
	return handed{q: []int32{3, 1, 77, 78}[:2], l: []int{7, 2, 2, 0, 9, 4, -1, 3, 3, 77, 78}[:9]}
}

// asks gives the calls that are handed lists; each answers a list that can be written over.
func asks() map[string]func(g *Graph, a handed) (list []int, overwrite func()) {
	hits := func(l []api.Hit) ([]int, func()) {
		var list []int
		for _, h := range l {
			list = append(list, int(h.Dist), int(h.Id))
		}
		return list, func() { fill(append(l, api.Hit{}), hit(77, 77)); fill(l, hit(77, 77)) }
	}
	chosen := func(l []int) ([]int, func()) {
		return slices.Clone(l), func() { fill(append(l, 0), 77); fill(l, 77) }
	}
	return map[string]func(g *Graph, a handed) ([]int, func()){
		"Near":        func(g *Graph, a handed) ([]int, func()) { return hits(g.Near(a.q, a.l)) },
		"Choose":      func(g *Graph, a handed) ([]int, func()) { return chosen(g.Choose(a.q, a.l, 2)) },
		"Choose, all": func(g *Graph, a handed) ([]int, func()) { return chosen(g.Choose(a.q, a.l, math.MaxInt)) },
		"Choose, 0":   func(g *Graph, a handed) ([]int, func()) { return chosen(g.Choose(a.q, a.l, 0)) },
		"Walk":        func(g *Graph, a handed) ([]int, func()) { return hits(g.Walk(a.q, a.l, 3, 0)) },
		"Walk, all":   func(g *Graph, a handed) ([]int, func()) { return hits(g.Walk(a.q, a.l, 300, 0)) },
		"Walk, above": func(g *Graph, a handed) ([]int, func()) { return hits(g.Walk(a.q, a.l, 4, 1)) },
		"Walk, none":  func(g *Graph, a handed) ([]int, func()) { return hits(g.Walk(a.q, a.l, 4, 5)) },
	}
}

func TestWhatIsHandedInStaysAsItWas(t *testing.T) {
	for name, ask := range asks() {
		a, want := newHanded(), newHanded()
		ask(some(), a)
		if !slices.Equal(whole(a.q), whole(want.q)) || !slices.Equal(whole(a.l), whole(want.l)) {
			t.Errorf("%s: it has become %v and %v", name, whole(a.q), whole(a.l))
		}
	}
}

func TestWhatIsToldMayBeWrittenOver(t *testing.T) {
	for name, ask := range asks() {
		g, a := some(), newHanded()
		want, overwrite := ask(g, a)
		overwrite()
		if got, _ := ask(g, a); !slices.Equal(got, want) {
			t.Errorf("%s: once more, %v, not %v", name, got, want)
		}
		if !slices.Equal(whole(a.q), whole(newHanded().q)) || !slices.Equal(whole(a.l), whole(newHanded().l)) {
			t.Errorf("%s: what is told shares memory with what is handed in", name)
		}
		wantAsSome(t, g)
	}
}

func TestWhatWasHandedInMayBeWrittenOver(t *testing.T) {
	g := some()
	for _, ask := range asks() {
		a := newHanded()
		ask(g, a)
		fill(a.q, 1<<30)
		fill(a.l, 1)
	}
	wantAsSome(t, g)
}

func TestWhatIsToldStaysAsItWas(t *testing.T) {
	g := some()
	q, l := []int32{3, 1}, upTo(8)
	near, chosen, walked := g.Near(q, l), g.Choose(q, l, 5), g.Walk(q, l, 5, 0)
	for _, ask := range asks() {
		_, overwrite := ask(g, newHanded())
		overwrite()
	}
	wantNear(t, some(), q, l, near...)
	wantChoose(t, some(), q, l, 5, chosen...)
	wantWalk(t, some(), q, l, 5, 0, walked...)
}

func TestGraphsHaveNothingInCommon(t *testing.T) {
	a, b := some(), some()
	link(t, b, 0, 3, 0, 7, 6, 5)
	b.Until(0, 9)
	b.Add(at(3, 3), 2, 1)
	wantAsSome(t, a)
}
