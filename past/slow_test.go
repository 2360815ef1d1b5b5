package past

import (
	"cmp"
	"fmt"
	"math"
	"slices"
	"testing"

	"lodestar/api"
)

// laid is a row as slow has it.
type laid struct {
	version uint64
	gone    bool
	item    api.Item
	went    bool
}

// swept is a sweep that was done.
type swept struct {
	version uint64
	keep    []uint64
}

// slow keeps all rows that were ever laid, and all sweeps, and finds everything word by word as the chapter has it.
type slow struct {
	rows   []laid
	sweeps []swept
}

func (s *slow) Last() uint64 {
	last := uint64(0)
	for _, r := range s.rows {
		last = max(last, r.version)
	}
	return last
}

func (s *slow) Rows() int {
	n := 0
	for _, r := range s.rows {
		if !r.went {
			n++
		}
	}
	return n
}

// rowAt gives the place of the row of an id at a version; -1, if there is none.
func (s *slow) rowAt(id uint32, v uint64) int {
	at := -1
	for i, r := range s.rows {
		if !r.went && r.item.Id == id && r.version <= v {
			at = i
		}
	}
	return at
}

// known tells whether v is known behind the first n sweeps.
func (s *slow) known(v uint64, n int) bool {
	if n == 0 {
		return true
	}
	sweep := s.sweeps[n-1]
	return v >= sweep.version || s.known(v, n-1) && slices.Contains(sweep.keep, v)
}

func (s *slow) there(id uint32, v uint64) bool {
	at := s.rowAt(id, v)
	return at >= 0 && !s.rows[at].gone
}

func (s *slow) lay(r laid) api.Errno {
	if s.Rows() == 1024 {
		return api.ErrFull
	}
	s.rows = append(s.rows, r)
	return api.OK
}

func (s *slow) Put(v uint64, x api.Item) api.Errno {
	if v == 0 || v < s.Last() {
		return api.ErrArg
	}
	return s.lay(laid{version: v, item: deep(x)})
}

func (s *slow) Cut(v uint64, id uint32) api.Errno {
	if v == 0 || v < s.Last() {
		return api.ErrArg
	}
	if !s.there(id, v) {
		return api.ErrNone
	}
	return s.lay(laid{version: v, gone: true, item: api.Item{Id: id}})
}

func (s *slow) Get(id uint32, v uint64) (api.Item, api.Errno) {
	if !s.known(v, len(s.sweeps)) {
		return api.Item{}, api.ErrGone
	}
	if !s.there(id, v) {
		return api.Item{}, api.ErrNone
	}
	return s.rows[s.rowAt(id, v)].item, api.OK
}

func (s *slow) All(v uint64) ([]api.Item, api.Errno) {
	if !s.known(v, len(s.sweeps)) {
		return nil, api.ErrGone
	}
	var l []api.Item
	for i, r := range s.rows {
		if !r.went && !r.gone && s.rowAt(r.item.Id, v) == i {
			l = append(l, r.item)
		}
	}
	slices.SortFunc(l, func(a, b api.Item) int { return cmp.Compare(a.Id, b.Id) })
	return l, api.OK
}

func (s *slow) Sweep(keep []uint64) int {
	versions := []uint64{s.Last()}
	for _, v := range keep {
		if s.known(v, len(s.sweeps)) {
			versions = append(versions, v)
		}
	}
	needed := make([]bool, len(s.rows))
	for i, r := range s.rows {
		at := func(v uint64) bool { return s.rowAt(r.item.Id, v) == i }
		needed[i] = slices.ContainsFunc(versions, at) && (!r.gone || s.elderNeeded(needed, i))
	}
	n := 0
	for i := range s.rows {
		if !s.rows[i].went && !needed[i] {
			s.rows[i].went = true
			n++
		}
	}
	s.sweeps = append(s.sweeps, swept{s.Last(), slices.Clone(keep)})
	return n
}

// elderNeeded tells whether of the rows ahead of the one at i one of its id is needed.
func (s *slow) elderNeeded(needed []bool, i int) bool {
	for j := range i {
		if needed[j] && s.rows[j].item.Id == s.rows[i].item.Id {
			return true
		}
	}
	return false
}

// deep copies an item, vector and tags too.
func deep(x api.Item) api.Item {
	x.Vec, x.Tags = slices.Clone(x.Vec), slices.Clone(x.Tags)
	return x
}

// same tells whether two items are alike. No list and an empty one are.
func same(a, b api.Item) bool {
	return a.Id == b.Id && slices.Equal(a.Vec, b.Vec) && slices.Equal(a.Tags, b.Tags)
}

// pair is a past, and a slow one to which the same is done.
type pair struct {
	t    *testing.T
	p    *Past
	s    *slow
	done string // what was done to both
}

func newPair(t *testing.T) *pair {
	return &pair{t: t, p: New(), s: &slow{}}
}

// put puts on both, and wants both to answer want.
func (b *pair) put(v uint64, x api.Item, want api.Errno) {
	b.t.Helper()
	b.done += fmt.Sprintf(" Put(%d,%d)", v, x.Id)
	b.wantErrno(b.p.Put(v, x), b.s.Put(v, x), want)
}

// cut cuts on both, and wants both to answer want.
func (b *pair) cut(v uint64, id uint32, want api.Errno) {
	b.t.Helper()
	b.done += fmt.Sprintf(" Cut(%d,%d)", v, id)
	b.wantErrno(b.p.Cut(v, id), b.s.Cut(v, id), want)
}

func (b *pair) wantErrno(got, slow, want api.Errno) {
	b.t.Helper()
	if got != want || slow != want {
		b.t.Fatalf("%s: %d, the slow one %d; want %d", b.done, got, slow, want)
	}
}

// sweep sweeps both, and wants want rows to go.
func (b *pair) sweep(want int, keep ...uint64) {
	b.t.Helper()
	if n := b.sweepAsSlow(keep); n != want {
		b.t.Fatalf("%s: %d rows went; want %d", b.done, n, want)
	}
}

// sweepAsSlow sweeps both, wants as many rows of both to go, and tells how many.
func (b *pair) sweepAsSlow(keep []uint64) int {
	b.t.Helper()
	b.done += fmt.Sprintf(" Sweep(%v)", keep)
	got, want := b.p.Sweep(keep), b.s.Sweep(keep)
	if got != want {
		b.t.Fatalf("%s: %d rows went; of the slow one %d", b.done, got, want)
	}
	return got
}

// wantAlike wants both to tell the same of all versions that are told apart by anything that was done, and of all ids.
func (b *pair) wantAlike() {
	b.t.Helper()
	if b.p.Rows() != b.s.Rows() || b.p.Last() != b.s.Last() {
		b.t.Fatalf("%s: %d rows, Last %d; of the slow one %d, %d", b.done, b.p.Rows(), b.p.Last(), b.s.Rows(), b.s.Last())
	}
	for _, v := range b.versions() {
		b.wantAllAlike(v)
		for _, id := range b.ids() {
			got, e := b.p.Get(id, v)
			if want, wantErr := b.s.Get(id, v); e != wantErr || !same(got, want) {
				b.t.Fatalf("%s: Get(%d, %d) = %v, %d; want %v, %d", b.done, id, v, got, e, want, wantErr)
			}
		}
	}
}

func (b *pair) wantAllAlike(v uint64) {
	b.t.Helper()
	got, e := b.p.All(v)
	if want, wantErr := b.s.All(v); e != wantErr || !slices.EqualFunc(got, want, same) {
		b.t.Fatalf("%s: All(%d) = %v, %d; want %v, %d", b.done, v, got, e, want, wantErr)
	}
}

// versions gives those of all rows and of all sweeps, those beside them, and the ends.
func (b *pair) versions() []uint64 {
	l := []uint64{0, 1, math.MaxUint32, 1 << 32, 1 << 63, math.MaxUint64 - 1, math.MaxUint64}
	add := func(v uint64) { l = append(l, v-1, v, v+1) }
	for _, r := range b.s.rows {
		add(r.version)
	}
	for _, s := range b.s.sweeps {
		add(s.version)
		for _, v := range s.keep {
			add(v)
		}
	}
	slices.Sort(l)
	return slices.Compact(l)
}

// ids gives those of all rows, those beside them, and the ends.
func (b *pair) ids() []uint32 {
	l := []uint32{0, 1, math.MaxUint32}
	for _, r := range b.s.rows {
		l = append(l, r.item.Id-1, r.item.Id, r.item.Id+1)
	}
	slices.Sort(l)
	return slices.Compact(l)
}
