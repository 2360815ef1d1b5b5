package hnsw

import (
	"slices"

	"lodestar/api"
)

// sweep is one that is under way.
type sweep struct {
	old   []api.Node
	moved []int // by the places of the old nodes: their new ones
	swept *Index
}

// gone is the new place of a node that goes. No node is ever there.
const gone = -1

// Sweep takes the nodes that have an end and are there at none of the versions of keep, and links those that stay past them. It tells how many went.
func (x *Index) Sweep(keep []uint64) int {
	s := sweep{old: x.Nodes(), swept: withoutNodes(x.metric, x.most, x.width)}
	for _, n := range s.old {
		s.move(n, keep)
	}
	went := len(s.old) - s.swept.Len()
	if went == 0 {
		return 0
	}
	for i := range s.old {
		s.relink(i)
	}
	*x = *s.swept
	return went
}

// move adds a node, without its links, to those that stay, unless it goes.
func (s *sweep) move(n api.Node, keep []uint64) {
	place := gone
	thereAt := func(v uint64) bool { return isThere(n, v) }
	if n.Until == 0 || slices.ContainsFunc(keep, thereAt) {
		place = s.swept.add(n.Item, levelOf(n), n.From, n.Until)
	}
	s.moved = append(s.moved, place)
}

// relink links the node that was at i to those that it was linked to, and then to those that the ones that went were linked to.
func (s *sweep) relink(i int) {
	for level, l := range s.old[i].Links {
		s.link(i, l, level)
		for _, j := range l {
			if s.moved[j] == gone {
				s.link(i, s.old[j].Links[level], level)
			}
		}
	}
}

// link links the node that was at i to those that were at the places l. The graph passes over all links from one that went, to one, and to oneself.
func (s *sweep) link(i int, l []int, level int) {
	for _, j := range l {
		s.swept.link(s.moved[i], s.moved[j], level)
	}
}
