package stage

import (
	"fmt"
	"slices"
	"testing"

	"lodestar/api"
	"lodestar/message"
)

// dice gives numbers from a fixed sequence.
type dice uint64

// upTo gives a number that is less than n.
func (d *dice) upTo(n int) int {
	*d = *d*6364136223846793005 + 1442695040888963407
	return int(uint64(*d) >> 33 % uint64(n))
}

// slowUpload is an upload that a slow table has, or had.
type slowUpload struct {
	owner  uint64
	name   string
	pieces [][]byte
	ended  bool
}

// all gives the bytes of all pieces.
func (u slowUpload) all() []byte {
	return slices.Concat(u.pieces...)
}

// slow is a table that forgets no upload: the one of the number n stands at the place n - 1.
type slow struct {
	uploads []slowUpload
}

// find gives an upload; nil, if it isn't its own.
func (s *slow) find(owner uint64, n uint32) *slowUpload {
	for i := range s.uploads {
		u := &s.uploads[i]
		if uint32(i+1) == n && u.owner == owner && !u.ended {
			return u
		}
	}
	return nil
}

func (s *slow) Begin(owner uint64, name string) (uint32, api.Errno) {
	if s.Len() == 4 {
		return 0, api.ErrFull
	}
	s.uploads = append(s.uploads, slowUpload{owner: owner, name: name})
	return uint32(len(s.uploads)), api.OK
}

func (s *slow) Chunk(owner uint64, n, page uint32, b []byte) api.Errno {
	u := s.find(owner, n)
	switch {
	case u == nil:
		return api.ErrStage
	case int(page) != len(u.pieces)+1:
		return api.ErrStage
	case len(u.all())+len(b) > 4096:
		return api.ErrFull
	}
	u.pieces = append(u.pieces, slices.Clone(b))
	return api.OK
}

func (s *slow) Commit(owner uint64, n uint32) (string, []api.Change, api.Errno) {
	u := s.find(owner, n)
	if u == nil {
		return "", nil, api.ErrStage
	}
	u.ended = true
	l, e := message.GetChanges(u.all())
	if e != api.OK {
		return "", nil, e
	}
	return u.name, l, api.OK
}

func (s *slow) Abort(owner uint64, n uint32) api.Errno {
	u := s.find(owner, n)
	if u == nil {
		return api.ErrStage
	}
	u.ended = true
	return api.OK
}

func (s *slow) Leave(owner uint64) int {
	many := 0
	for i := range s.uploads {
		if u := &s.uploads[i]; u.owner == owner && !u.ended {
			u.ended = true
			many++
		}
	}
	return many
}

func (s *slow) Len() int {
	many := 0
	for _, u := range s.uploads {
		if !u.ended {
			many++
		}
	}
	return many
}

func (s *slow) Bytes() int {
	n := 0
	for _, u := range s.uploads {
		if !u.ended {
			n += len(u.all())
		}
	}
	return n
}

// pair is a table, and a slow one to which the same is done.
type pair struct {
	t      *testing.T
	p      *Table
	s      *slow
	done   []string // what was done to both
	errors map[string]int
}

func newPair(t *testing.T) *pair {
	return &pair{t: t, p: New(), s: &slow{}, errors: map[string]int{}}
}

// did notes what is done, and wants both to answer the same, and to have as much.
func (b *pair) did(what string, e api.Errno, got, want any) {
	b.t.Helper()
	b.done = append(b.done, what)
	b.errors[fmt.Sprint(what[:5], " ", e)]++
	if got, want := fmt.Sprint(got), fmt.Sprint(want); got != want {
		b.t.Fatalf("%v: %s; the slow one %s", b.done, got, want)
	}
	if b.p.Len() != b.s.Len() || b.p.Bytes() != b.s.Bytes() {
		b.t.Fatalf("%v: %d uploads, %d bytes; the slow one %d, %d", b.done, b.p.Len(), b.p.Bytes(), b.s.Len(), b.s.Bytes())
	}
	if b.p.Len() > api.MaxStages || b.p.Bytes() > api.MaxStages*api.MaxStaged {
		b.t.Fatalf("%v: %d uploads, %d bytes", b.done, b.p.Len(), b.p.Bytes())
	}
}

func (b *pair) begin(owner uint64, name string) {
	b.t.Helper()
	n, e := b.p.Begin(owner, name)
	m, f := b.s.Begin(owner, name)
	b.did(fmt.Sprint("Begin ", owner, " ", name), e, []any{n, e}, []any{m, f})
}

func (b *pair) chunk(owner uint64, n, page uint32, piece []byte) {
	b.t.Helper()
	e, f := b.p.Chunk(owner, n, page, piece), b.s.Chunk(owner, n, page, piece)
	b.did(fmt.Sprint("Chunk ", owner, " ", n, " ", page, ": ", len(piece)), e, e, f)
}

func (b *pair) commit(owner uint64, n uint32) {
	b.t.Helper()
	name, l, e := b.p.Commit(owner, n)
	want, m, f := b.s.Commit(owner, n)
	b.did(fmt.Sprint("Commit ", owner, " ", n), e, []any{name, l, e}, []any{want, m, f})
}

func (b *pair) abort(owner uint64, n uint32) {
	b.t.Helper()
	e, f := b.p.Abort(owner, n), b.s.Abort(owner, n)
	b.did(fmt.Sprint("Abort ", owner, " ", n), e, e, f)
}

func (b *pair) leave(owner uint64) {
	b.t.Helper()
	n := b.p.Leave(owner)
	b.did(fmt.Sprint("Leave ", owner), api.OK, n, b.s.Leave(owner))
}

// commitAll wants what either has still to be alike.
func (b *pair) commitAll(owners uint64) {
	b.t.Helper()
	for owner := range owners {
		for n := range len(b.s.uploads) + 2 {
			b.commit(owner, uint32(n))
		}
	}
}

// step does to both what the dice say.
func (b *pair) step(d *dice) {
	b.t.Helper()
	owner := uint64(d.upTo(3))
	n := uint32(max(len(b.s.uploads)-5, 0) + d.upTo(8))
	if d.upTo(4) > 0 {
		owner, n = b.anyUpload(d, owner, n)
	}
	switch d.upTo(16) {
	case 0, 1, 2:
		b.begin(owner, fmt.Sprint("name ", d.upTo(3)))
	case 3:
		b.commit(owner, n)
	case 4:
		b.abort(owner, n)
	case 5:
		if d.upTo(4) == 0 {
			b.leave(owner)
		}
	default:
		b.chunk(owner, n, b.anyPage(d, owner, n), anyPiece(d))
	}
}

// anyUpload gives one that is there, and its owner; else those that it is given.
func (b *pair) anyUpload(d *dice, owner uint64, n uint32) (uint64, uint32) {
	from := d.upTo(8)
	for i := range b.s.uploads {
		at := (i + from) % len(b.s.uploads)
		if u := b.s.uploads[at]; !u.ended {
			owner, n = u.owner, uint32(at+1)
		}
	}
	return owner, n
}

// anyPage gives mostly the next page of an upload.
func (b *pair) anyPage(d *dice, owner uint64, n uint32) uint32 {
	u := b.s.find(owner, n)
	if u == nil || d.upTo(6) == 0 {
		return uint32(d.upTo(5))
	}
	return uint32(len(u.pieces) + 1)
}

// anyPiece gives bytes that make changes now and then, and few or many of them.
func anyPiece(d *dice) []byte {
	switch d.upTo(8) {
	case 0:
		return nil
	case 1:
		return make([]byte, 1000+d.upTo(3200))
	case 2:
		return make([]byte, 4094+d.upTo(4))
	case 3:
		return []byte{1}
	case 4:
		return []byte{0}
	}
	return []byte{1, byte(1 + d.upTo(9))}
}

func TestAsTheSlowOne(t *testing.T) {
	d := dice(3)
	errors := map[string]int{}
	for range 400 {
		b := newPair(t)
		b.errors = errors
		for range 80 {
			b.step(&d)
		}
		b.commitAll(4)
	}
	for _, what := range []string{"Begin 0", "Begin 4", "Chunk 0", "Chunk 4", "Chunk 130", "Commi 0", "Commi 40", "Commi 60", "Commi 130", "Abort 0", "Abort 130"} {
		if errors[what] < 20 {
			t.Errorf("%s: %d times", what, errors[what])
		}
	}
}

func TestEveryScriptOfFewSteps(t *testing.T) {
	steps := []func(b *pair){
		func(b *pair) { b.begin(7, "a") },
		func(b *pair) { b.begin(8, "b") },
		func(b *pair) { b.chunk(7, 1, 1, []byte{1}) },
		func(b *pair) { b.chunk(7, 1, 2, []byte{1, 9}) },
		func(b *pair) { b.chunk(8, 2, 1, []byte{0}) },
		func(b *pair) { b.commit(7, 1) },
		func(b *pair) { b.commit(8, 2) },
		func(b *pair) { b.abort(7, 1) },
		func(b *pair) { b.leave(7) },
	}
	const long = 5
	scripts := 1
	for range long {
		scripts *= len(steps)
	}
	for script := range scripts {
		b := newPair(t)
		for range long {
			steps[script%len(steps)](b)
			script /= len(steps)
		}
		for n := range uint32(4) {
			b.commit(7, n)
			b.commit(8, n)
		}
	}
}
