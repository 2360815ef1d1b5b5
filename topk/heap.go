package topk

import "lodestar/api"

// heap is a binary tree of hits in a list: those below the one at i stand at 2i + 1 and 2i + 2, and neither is above it. Ahead of top, replaceTop and pop it must have hits.
type heap struct {
	hits  []api.Hit
	above func(a, b api.Hit) bool
}

func (p *heap) top() api.Hit {
	return p.hits[0]
}

func (p *heap) push(h api.Hit) {
	p.hits = append(p.hits, h)
	p.rise(len(p.hits) - 1)
}

func (p *heap) replaceTop(h api.Hit) {
	p.hits[0] = h
	p.sink(0)
}

func (p *heap) pop() api.Hit {
	top := p.top()
	last := len(p.hits) - 1
	p.hits[0] = p.hits[last]
	p.hits = p.hits[:last]
	p.sink(0)
	return top
}

// rise brings the hit at i up to its place.
func (p *heap) rise(i int) {
	for i > 0 {
		parent := (i - 1) / 2
		if !p.above(p.hits[i], p.hits[parent]) {
			return
		}
		p.swap(i, parent)
		i = parent
	}
}

// sink brings the hit at i down to its place.
func (p *heap) sink(i int) {
	for {
		child := p.upperChild(i)
		if child >= len(p.hits) || !p.above(p.hits[child], p.hits[i]) {
			return
		}
		p.swap(i, child)
		i = child
	}
}

// upperChild tells where the one of the two below i stands that is above the other; beyond the list, if there are none.
func (p *heap) upperChild(i int) int {
	left, right := 2*i+1, 2*i+2
	if right < len(p.hits) && p.above(p.hits[right], p.hits[left]) {
		return right
	}
	return left
}

func (p *heap) swap(i, j int) {
	p.hits[i], p.hits[j] = p.hits[j], p.hits[i]
}
