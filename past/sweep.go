package past

import "slices"

// Sweep takes the rows that aren't needed: by those versions of keep that are known, and by Last. It tells how many went.
func (p *Past) Sweep(keep []uint64) int {
	p.kept = p.stillKnown(keep)
	p.swept = p.last
	before := len(p.rows)
	p.rows = needed(p.rows, p.seen())
	return before - len(p.rows)
}

// stillKnown gives those versions of keep that are known, rising, each once: but those from Last on, which are known behind the sweep anyway.
func (p *Past) stillKnown(keep []uint64) []uint64 {
	var l []uint64
	for _, v := range keep {
		if v < p.last && p.known(v) {
			l = append(l, v)
		}
	}
	slices.Sort(l)
	// Copied: else the memory of all that stood there twice would be kept.
	return cloneList(slices.Compact(l))
}

// seen tells of each row whether it is its id's row at a version that is kept, or at Last.
func (p *Past) seen() []bool {
	l := make([]bool, len(p.rows))
	next := map[uint32]uint64{} // of each id the version of its next younger row
	for i, r := range p.backFrom(p.last) {
		end, younger := next[r.item.Id]
		next[r.item.Id] = r.version
		l[i] = !younger || anyIn(p.kept, r.version, end)
	}
	return l
}

// anyIn tells whether the rising list l has a version from begin on and below end.
func anyIn(l []uint64, begin, end uint64) bool {
	i, _ := slices.BinarySearch(l, begin)
	return i < len(l) && l[i] < end
}

// needed gives those of the rows that are seen and needed: one that says gone is so only where it hides an elder one.
func needed(rows []row, seen []bool) []row {
	var l []row
	elder := map[uint32]struct{}{} // ids of which a row is needed
	for i, r := range rows {
		_, hides := elder[r.item.Id]
		if seen[i] && (!r.gone || hides) {
			l = append(l, r)
			elder[r.item.Id] = struct{}{}
		}
	}
	return l
}
