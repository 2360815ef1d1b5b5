package links

import (
	"slices"
	"sort"

	"lodestar/api"
	"lodestar/fixvec"
	"lodestar/topk"
)

// walk is one that is under way.
type walk struct {
	hitOf   func(i int) api.Hit
	met     places
	waiting []api.Hit // the nearest last: it is the one to be taken
	best    *topk.Best
}

// Walk goes from the places of from towards q, and gives the nearest that it met on that level, as many as width, the nearest first.
func (g *Graph) Walk(q []int32, from []int, width, level int) []api.Hit {
	w := g.begin(q, from, width, level)
	for len(w.waiting) > 0 {
		h := w.take()
		if worst, full := w.best.Worst(); full && fixvec.Less(worst, h) {
			break
		}
		for _, i := range g.neighbours(int(h.Id), level) {
			w.meet(i)
		}
	}
	return w.best.List()
}

// begin gives a walk that has met those places of from that are on that level.
func (g *Graph) begin(q []int32, from []int, width, level int) *walk {
	w := &walk{
		hitOf: g.hitsFor(q),
		met:   places{},
		best:  topk.New(min(max(width, 1), api.MaxWidth)),
	}
	w.waiting = g.Near(q, g.onLevel(from, level))
	for _, h := range w.waiting {
		w.met.add(int(h.Id))
		w.best.Put(h)
	}
	slices.Reverse(w.waiting)
	return w
}

// onLevel gives those places of l that are on that level.
func (g *Graph) onLevel(l []int, level int) []int {
	var on []int
	for _, i := range l {
		if g.on(i, level) {
			on = append(on, i)
		}
	}
	return on
}

// neighbours gives those of the node at i on that level: its links, and on the lowest one those of the spine.
func (g *Graph) neighbours(i, level int) []int {
	l := cloneList(g.nodes[i].Links[level])
	if level > 0 {
		return l
	}
	if i > 0 {
		l = append(l, i-1)
	}
	if i < len(g.nodes)-1 {
		l = append(l, i+1)
	}
	return l
}

// take takes the nearest of those that wait.
func (w *walk) take() api.Hit {
	last := len(w.waiting) - 1
	h := w.waiting[last]
	w.waiting = w.waiting[:last]
	return h
}

// meet meets the node at i, unless it was met.
func (w *walk) meet(i int) {
	if !w.met.add(i) {
		return
	}
	h := w.hitOf(i)
	if worst, full := w.best.Worst(); full && !fixvec.Less(h, worst) {
		return
	}
	w.best.Put(h)
	w.wait(h)
}

// wait lets h, which is one of the best, wait. Those that stand behind it are nearer, so they are among the best too: no more than MaxWidth have to move.
func (w *walk) wait(h api.Hit) {
	at := sort.Search(len(w.waiting), func(i int) bool { return fixvec.Less(w.waiting[i], h) })
	w.waiting = slices.Insert(w.waiting, at, h)
}
