package cursor

import (
	"cmp"
	"slices"
)

// use is when a cursor was used last, and which one it is.
type use struct {
	tick, number uint32
}

// compare holds two uses against each other: the less one is longer ago, or as long ago and of the lesser number.
func (u use) compare(v use) int {
	return cmp.Or(cmp.Compare(u.tick, v.tick), cmp.Compare(u.number, v.number))
}

// longestUnused gives the number of the cursor whose use is the least. There must be cursors.
func (t *Table) longestUnused() uint32 {
	var uses []use
	for n, c := range t.cursors {
		uses = append(uses, use{c.used, n})
	}
	return slices.MinFunc(uses, use.compare).number
}
