package links

import (
	"slices"

	"lodestar/api"
	"lodestar/fixvec"
	"lodestar/topk"
)

// Near gives the hits for q of those places of l that are there, each once, the nearest first.
func (g *Graph) Near(q []int32, l []int) []api.Hit {
	hitOf := g.hitsFor(q)
	met := places{}
	var hits []api.Hit
	for _, i := range l {
		if g.there(i) && met.add(i) {
			hits = append(hits, hitOf(i))
		}
	}
	// Not by a selector: of more than MaxWidth hits it would leave some out.
	return topk.Merge(hits, nil, len(hits))
}

// Choose gives at most so many places of l: first those that are near to q, but not nearer to one that was chosen; then, if there is room, the others.
func (g *Graph) Choose(q []int32, l []int, most int) []int {
	if most < 1 {
		return nil
	}
	var taken, passed []int
	for _, h := range g.Near(q, l) {
		if len(taken) == most {
			return taken
		}
		i := int(h.Id)
		if g.nearerToOneOf(taken, i, h.Dist) {
			passed = append(passed, i)
		} else {
			taken = append(taken, i)
		}
	}
	room := most - len(taken)
	return append(taken, passed[:min(room, len(passed))]...)
}

// nearerToOneOf tells whether one of the places l is less far than dist from the node at i.
func (g *Graph) nearerToOneOf(l []int, i int, dist int64) bool {
	hitOf := g.hitsFor(g.nodes[i].Item.Vec)
	return slices.ContainsFunc(l, func(one int) bool { return hitOf(one).Dist < dist })
}

// hitsFor gives a function that tells the hit for q of a place that is there.
func (g *Graph) hitsFor(q []int32) func(i int) api.Hit {
	return aim{g, q}.hit
}

// aim is a vector that is searched for in a graph.
type aim struct {
	graph *Graph
	q     []int32
}

func (a aim) hit(i int) api.Hit {
	// Where Dist is false, it answers 0: just as far as a node is then.
	dist, _ := fixvec.Dist(a.graph.metric, a.q, a.graph.nodes[i].Item.Vec)
	return api.Hit{Dist: dist, Id: uint32(i)}
}

// places is a set of them.
type places map[int]struct{}

// add puts i in; false, if it was there already.
func (p places) add(i int) bool {
	_, met := p[i]
	p[i] = struct{}{}
	return !met
}
