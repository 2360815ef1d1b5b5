package hnsw

import (
	"lodestar/api"
	"lodestar/fixvec"
	"lodestar/tags"
	"lodestar/topk"
)

// Search gives at most k hits of what is there at v and is wanted by f, the nearest to q first; it looks at as many candidates as the greater one of width and k.
func (x *Index) Search(q []int32, f api.Filter, k, width int, v uint64) []api.Hit {
	// Neither k nor the width has to be brought to its range: the selector and the walk do so.
	best := topk.New(k)
	for _, i := range places(x.graph.Walk(q, []int{x.down(q, 0)}, max(width, k), 0)) {
		n := x.node(i)
		// A walk counts a node from which nothing is truly far as 0.
		dist, ok := fixvec.Dist(x.metric, q, n.Item.Vec)
		if ok && isThere(n, v) && tags.Match(f, n.Item.Tags) {
			best.Put(api.Hit{Dist: dist, Id: n.Item.Id})
		}
	}
	return best.List()
}

// down gives the place from which a search for q goes on from that level down; the entry's, if that isn't above it.
func (x *Index) down(q []int32, level int) int {
	i := x.entry
	for on := x.top(); on > level; on-- {
		i = places(x.graph.Walk(q, []int{i}, 1, on))[0]
	}
	return i
}

// isThere tells whether a node is there at v.
func isThere(n api.Node, v uint64) bool {
	return n.From <= v && (n.Until == 0 || n.Until > v)
}
