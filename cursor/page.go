package cursor

import "lodestar/api"

// cursor is a search that is told page by page.
type cursor struct {
	owner  uint64
	pin    int
	vec    []int32
	filter api.Filter
	used   uint32 // at which tick it was last
	told   uint32 // how many pages
	// No page ahead of the last one that was told may be asked for again: two ends are enough.
	ahead, last end // of the page ahead of the last one that was told; of that one
}

// end is the end of a page: the hit behind which the next one begins, if it has any.
type end struct {
	has bool
	hit api.Hit
}

// mayTell tells whether a page is the next one, or the last one that was told, which may be asked for again.
func (c *cursor) mayTell(page uint32) bool {
	return page > 0 && (page == c.told || page-1 == c.told)
}

// ask gives what a page that may be told asks for.
func (c *cursor) ask(page uint32) api.Ask {
	from := c.endAhead(page)
	return api.Ask{Pin: c.pin, Vec: cloneList(c.vec), Filter: cloneFilter(c.filter), Has: from.has, Last: from.hit}
}

// tell notes that a page that may be told was told, with these hits.
func (c *cursor) tell(page uint32, l []api.Hit) {
	c.ahead = c.endAhead(page)
	c.last = c.ahead
	if len(l) > 0 {
		c.last = end{true, l[len(l)-1]}
	}
	c.told = page
}

// endAhead gives the end of the page ahead of one that may be told.
func (c *cursor) endAhead(page uint32) end {
	if page == c.told {
		return c.ahead
	}
	return c.last
}

func cloneFilter(f api.Filter) api.Filter {
	return api.Filter{All: cloneList(f.All), Any: cloneList(f.Any), None: cloneList(f.None)}
}

// cloneList copies to new memory. slices.Clone wouldn't do: of no things it gives a piece of the old memory, and keeps that alive.
func cloneList[T any](l []T) []T {
	return append([]T(nil), l...)
}
