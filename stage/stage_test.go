package stage

import (
	"bytes"
	"fmt"
	"math"
	"reflect"
	"slices"
	"strings"
	"testing"

	"lodestar/api"
	"lodestar/message"
)

// put gives a change: the item is there.
func put(id uint32, vec []int32, tags ...string) api.Change {
	return api.Change{Item: api.Item{Id: id, Vec: vec, Tags: tags}}
}

// gone gives a change: the item isn't there any more.
func gone(id uint32) api.Change {
	return api.Change{Gone: true, Item: api.Item{Id: id}}
}

// two gives changes, and their bytes as they were written out elsewhere.
func two() ([]api.Change, []byte) {
	return []api.Change{put(300, []int32{-1, 64}, "t"), gone(7)}, []byte{2, 0, 172, 2, 2, 1, 128, 1, 1, 1, 116, 1, 7}
}

// same tells whether two lists of changes are alike. No list and an empty one are.
func same(a, b []api.Change) bool {
	return slices.EqualFunc(a, b, func(c, d api.Change) bool {
		x, y := c.Item, d.Item
		return c.Gone == d.Gone && x.Id == y.Id && slices.Equal(x.Vec, y.Vec) && slices.Equal(x.Tags, y.Tags)
	})
}

// written gives the bytes of l.
func written(t *testing.T, l []api.Change) []byte {
	t.Helper()
	b, ok := message.PutChanges(l)
	if !ok {
		t.Fatalf("%d changes can't be written", len(l))
	}
	return b
}

// full gives changes that are written as just MaxStaged bytes.
func full(t *testing.T) []api.Change {
	t.Helper()
	l := []api.Change{put(1, nil, strings.Repeat("a", 4000), "")}
	l[0].Item.Tags[1] = strings.Repeat("b", api.MaxStaged-len(written(t, l)))
	if n := len(written(t, l)); n != api.MaxStaged {
		t.Fatalf("%d bytes", n)
	}
	return l
}

// wantBegin wants an upload to begin, of the number n.
func wantBegin(t *testing.T, s *Table, owner uint64, name string, n uint32) {
	t.Helper()
	if got, e := s.Begin(owner, name); got != n || e != api.OK {
		t.Fatalf("Begin(%d, %q) = %d, %d; want %d", owner, name, got, e, n)
	}
}

// wantFull wants no upload to begin, and nothing to change.
func wantFull(t *testing.T, s *Table, owner uint64, name string) {
	t.Helper()
	before := told(s)
	if n, e := s.Begin(owner, name); n != 0 || e != api.ErrFull {
		t.Fatalf("Begin(%d, %q) = %d, %d; want 0, %d", owner, name, n, e, api.ErrFull)
	}
	wantTold(t, s, before)
}

// wantChunk wants a piece to be taken.
func wantChunk(t *testing.T, s *Table, owner uint64, n, page uint32, b []byte) {
	t.Helper()
	many, bytes := s.Len(), s.Bytes()
	if e := s.Chunk(owner, n, page, b); e != api.OK {
		t.Fatalf("Chunk(%d, %d, %d, %d bytes) = %d", owner, n, page, len(b), e)
	}
	wantHas(t, s, many, bytes+len(b))
}

// wantNoChunk wants a piece not to be taken, by the error want, and nothing to change.
func wantNoChunk(t *testing.T, s *Table, owner uint64, n, page uint32, b []byte, want api.Errno) {
	t.Helper()
	before := told(s)
	if e := s.Chunk(owner, n, page, b); e != want {
		t.Fatalf("Chunk(%d, %d, %d, %d bytes) = %d; want %d", owner, n, page, len(b), e, want)
	}
	wantTold(t, s, before)
}

// wantPage wants page to be the next one of an upload, and no other.
func wantPage(t *testing.T, s *Table, owner uint64, n, page uint32) {
	t.Helper()
	for _, p := range []uint32{0, 1, 2, page - 2, page - 1, page + 1, page + 2, page + 1<<8, page + 1<<16, page + 1<<31, math.MaxUint32} {
		if p != page {
			wantNoChunk(t, s, owner, n, p, nil, api.ErrStage)
			wantNoChunk(t, s, owner, n, p, []byte{1}, api.ErrStage)
		}
	}
	wantChunk(t, s, owner, n, page, nil)
}

// wantCommit wants an upload to be committed: its name and changes are told, and it is gone.
func wantCommit(t *testing.T, s *Table, owner uint64, n uint32, name string, want []api.Change) {
	t.Helper()
	many := s.Len()
	if got, l, e := s.Commit(owner, n); got != name || !same(l, want) || e != api.OK {
		t.Fatalf("Commit(%d, %d) = %q, %v, %d; want %q, %v", owner, n, got, l, e, name, want)
	}
	wantNone(t, s, n, owner)
	if s.Len() != many-1 {
		t.Fatalf("%d uploads behind Commit; %d ahead of it", s.Len(), many)
	}
}

// wantNoChanges wants an upload to be committed, to be gone, and to tell the error want alone.
func wantNoChanges(t *testing.T, s *Table, owner uint64, n uint32, want api.Errno) {
	t.Helper()
	many := s.Len()
	if name, l, e := s.Commit(owner, n); name != "" || len(l) != 0 || e != want {
		t.Fatalf("Commit(%d, %d) = %q, %v, %d; want nothing and %d", owner, n, name, l, e, want)
	}
	wantNone(t, s, n, owner)
	if s.Len() != many-1 {
		t.Fatalf("%d uploads behind Commit; %d ahead of it", s.Len(), many)
	}
}

// wantNotOwn wants the upload n to be none of that owner's, and asking for it to change nothing.
func wantNotOwn(t *testing.T, s *Table, owner uint64, n uint32) {
	t.Helper()
	before := told(s)
	for _, page := range []uint32{0, 1, 2, 3, math.MaxUint32} {
		for _, b := range [][]byte{nil, {}, {0}, make([]byte, api.MaxStaged+1)} {
			wantNoChunk(t, s, owner, n, page, b, api.ErrStage)
		}
	}
	if name, l, e := s.Commit(owner, n); name != "" || len(l) != 0 || e != api.ErrStage {
		t.Fatalf("Commit(%d, %d) = %q, %v, %d; want nothing and %d", owner, n, name, l, e, api.ErrStage)
	}
	if e := s.Abort(owner, n); e != api.ErrStage {
		t.Fatalf("Abort(%d, %d) = %d; want %d", owner, n, e, api.ErrStage)
	}
	wantTold(t, s, before)
}

// wantNone wants there to be no upload n, whoever asks.
func wantNone(t *testing.T, s *Table, n uint32, owners ...uint64) {
	t.Helper()
	for _, owner := range append(owners, 0, 1, 7, 8, math.MaxUint64) {
		wantNotOwn(t, s, owner, n)
	}
}

// wantAbort wants an upload to be aborted: it is gone.
func wantAbort(t *testing.T, s *Table, owner uint64, n uint32) {
	t.Helper()
	many := s.Len()
	if e := s.Abort(owner, n); e != api.OK {
		t.Fatalf("Abort(%d, %d) = %d", owner, n, e)
	}
	wantNone(t, s, n, owner)
	if s.Len() != many-1 {
		t.Fatalf("%d uploads behind Abort; %d ahead of it", s.Len(), many)
	}
}

// wantLeave wants so many uploads to go with their owner, and no others.
func wantLeave(t *testing.T, s *Table, owner uint64, want int) {
	t.Helper()
	many := s.Len()
	if n := s.Leave(owner); n != want {
		t.Fatalf("Leave(%d) = %d; want %d", owner, n, want)
	}
	if s.Len() != many-want {
		t.Fatalf("%d uploads behind Leave = %d; %d ahead of it", s.Len(), want, many)
	}
}

// wantHas wants there to be so many uploads, and of all of them so many bytes.
func wantHas(t *testing.T, s *Table, many, bytes int) {
	t.Helper()
	if s.Len() != many || s.Bytes() != bytes {
		t.Fatalf("%d uploads, %d bytes; want %d, %d", s.Len(), s.Bytes(), many, bytes)
	}
}

// told gives all that a table keeps.
func told(s *Table) Table {
	c := Table{uploads: map[uint32]*upload{}, last: s.last}
	for n, u := range s.uploads {
		v := *u
		v.bytes = slices.Clone(u.bytes)
		c.uploads[n] = &v
	}
	return c
}

// wantTold wants a table to keep what it kept before.
func wantTold(t *testing.T, s *Table, before Table) {
	t.Helper()
	if now := told(s); !reflect.DeepEqual(now, before) {
		t.Fatalf("a refused call has changed %v to %v", before, now)
	}
}

// P13.1

func TestATableWithoutUploads(t *testing.T) {
	s := New()
	wantHas(t, s, 0, 0)
	for _, n := range []uint32{0, 1, 2, math.MaxUint32} {
		wantNone(t, s, n)
	}
	for _, owner := range []uint64{0, 1, math.MaxUint64} {
		wantLeave(t, s, owner, 0)
	}
	wantHas(t, s, 0, 0)
	wantBegin(t, s, 7, "a", 1)
	wantHas(t, s, 1, 0)
}

func TestExamples(t *testing.T) {
	s := New()
	wantBegin(t, s, 7, "a", 1)
	wantChunk(t, s, 7, 1, 1, []byte("x"))
	wantNoChunk(t, s, 7, 1, 1, []byte("x"), api.ErrStage)
	wantNoChunk(t, s, 8, 1, 2, []byte("x"), api.ErrStage)
	if e := s.Abort(7, 1); e != api.OK {
		t.Error(e)
	}
	if name, l, e := s.Commit(7, 1); name != "" || len(l) != 0 || e != api.ErrStage {
		t.Error(name, l, e)
	}
}

func TestNumbersAsUploadsCome(t *testing.T) {
	s := New()
	for n := uint32(1); n <= 4; n++ {
		wantBegin(t, s, 7, "a", n)
	}
	wantFull(t, s, 7, "a")
	wantAbort(t, s, 7, 2)
	wantBegin(t, s, 7, "a", 5)
	wantNoChanges(t, s, 7, 5, api.ErrEnd)
	wantBegin(t, s, 8, "a", 6)
	wantLeave(t, s, 7, 3)
	for n := uint32(7); n <= 9; n++ {
		wantBegin(t, s, 8, "a", n)
	}
	wantFull(t, s, 7, "a")
	wantFull(t, s, 8, "a")
	wantChunk(t, s, 8, 7, 1, []byte{0})
	wantCommit(t, s, 8, 7, "a", nil)
	wantBegin(t, s, 8, "a", 10)
	wantLeave(t, s, 8, 4)
	wantBegin(t, s, 8, "a", 11)
}

func TestNumbersAreNeverUsedAgain(t *testing.T) {
	s := New()
	wantBegin(t, s, 9, "stays", 1)
	for i := range 3000 {
		n := uint32(i + 2)
		wantBegin(t, s, uint64(i%5), "a", n)
		switch i % 3 {
		case 0:
			s.Commit(uint64(i%5), n)
		case 1:
			s.Abort(uint64(i%5), n)
		case 2:
			s.Leave(uint64(i % 5))
		}
		wantHas(t, s, 1, 0)
	}
	wantNotOwn(t, s, 2, 2)
	wantAbort(t, s, 9, 1)
}

func TestAsManyUploadsAsMayBe(t *testing.T) {
	for _, owners := range [][]uint64{{1, 1, 1, 1}, {1, 2, 3, 4}, {0, 5, 0, 5}, {math.MaxUint64, 0, 1, 0}} {
		s := New()
		for i, owner := range owners {
			wantBegin(t, s, owner, "a", uint32(i+1))
			wantHas(t, s, i+1, 0)
		}
		for _, owner := range append(owners, 6) {
			wantFull(t, s, owner, "a")
			wantFull(t, s, owner, "")
		}
		wantHas(t, s, api.MaxStages, 0)
	}
}

func TestRoomWhenOneIsGone(t *testing.T) {
	for name, end := range map[string]func(t *testing.T, s *Table){
		"Abort":               func(t *testing.T, s *Table) { wantAbort(t, s, 7, 3) },
		"Commit without them": func(t *testing.T, s *Table) { wantNoChanges(t, s, 7, 3, api.ErrEnd) },
		"Leave":               func(t *testing.T, s *Table) { wantLeave(t, s, 7, 1) },
		"Commit of changes": func(t *testing.T, s *Table) {
			wantChunk(t, s, 7, 3, 1, []byte{0})
			wantCommit(t, s, 7, 3, "a", nil)
		},
	} {
		t.Run(name, func(t *testing.T) {
			s := New()
			for n, owner := range []uint64{1, 2, 7, 1} {
				wantBegin(t, s, owner, "a", uint32(n+1))
			}
			wantFull(t, s, 7, "a")
			end(t, s)
			wantHas(t, s, 3, 0)
			wantBegin(t, s, 7, "a", 5)
			wantFull(t, s, 7, "a")
		})
	}
}

func TestRefusedCallsMakeNoRoom(t *testing.T) {
	s := New()
	for n := uint32(1); n <= 4; n++ {
		wantBegin(t, s, 7, "a", n)
	}
	for n := uint32(0); n < 7; n++ {
		wantNotOwn(t, s, 8, n)
	}
	wantNotOwn(t, s, 7, 0)
	wantNotOwn(t, s, 7, 5)
	wantNoChunk(t, s, 7, 1, 1, make([]byte, api.MaxStaged+1), api.ErrFull)
	wantLeave(t, s, 8, 0)
	wantFull(t, s, 7, "a")
}

func TestOwnersAndNamesAsTheyAre(t *testing.T) {
	l, b := two()
	for _, owner := range []uint64{0, 1, math.MaxInt64, math.MaxUint32 + 1, math.MaxUint64} {
		for _, name := range []string{"", "a", strings.Repeat("n", api.MaxName), strings.Repeat("n", 5000), "\xff\x00", "ä"} {
			s := New()
			wantBegin(t, s, owner, name, 1)
			wantBegin(t, s, owner, "other", 2)
			wantChunk(t, s, owner, 1, 1, b)
			wantNotOwn(t, s, owner+1, 1)
			wantNotOwn(t, s, owner-1, 1)
			wantNotOwn(t, s, owner^1<<32, 1)
			wantCommit(t, s, owner, 1, name, l)
		}
	}
}

func TestChunkOfWhatIsNotItsOwn(t *testing.T) {
	s := New()
	wantBegin(t, s, 7, "a", 1)
	wantBegin(t, s, 8, "b", 2)
	wantBegin(t, s, 7, "c", 3)
	wantNotOwn(t, s, 8, 1)
	wantNotOwn(t, s, 7, 2)
	wantNotOwn(t, s, 8, 3)
	for _, owner := range []uint64{0, 9, math.MaxUint64} {
		for n := uint32(0); n < 6; n++ {
			wantNotOwn(t, s, owner, n)
		}
	}
	for _, n := range []uint32{0, 4, 5, 257, 1<<16 + 1, math.MaxUint32} {
		wantNone(t, s, n)
	}
	wantAbort(t, s, 7, 1)
	wantNoChanges(t, s, 7, 3, api.ErrEnd)
	wantLeave(t, s, 8, 1)
	for n := uint32(0); n < 6; n++ {
		wantNone(t, s, n)
	}
	wantBegin(t, s, 7, "a", 4)
	wantNotOwn(t, s, 7, 1)
	wantChunk(t, s, 7, 4, 1, []byte{0})
	wantCommit(t, s, 7, 4, "a", nil)
}

func TestPiecesInTheirOrder(t *testing.T) {
	s := New()
	wantBegin(t, s, 7, "a", 1)
	wantBegin(t, s, 7, "b", 2)
	l, b := two()
	for page := uint32(1); page < 300; page++ {
		wantPage(t, s, 7, 1, page)
	}
	wantChunk(t, s, 7, 1, 300, b[:5])
	wantPage(t, s, 7, 1, 301)
	wantChunk(t, s, 7, 1, 302, b[5:])
	wantPage(t, s, 7, 1, 303)
	wantPage(t, s, 7, 2, 1)
	wantCommit(t, s, 7, 1, "a", l)
	wantPage(t, s, 7, 2, 2)
	wantBegin(t, s, 7, "c", 3)
	wantPage(t, s, 7, 3, 1)
	wantPage(t, s, 7, 2, 3)
}

func TestAPieceThatWasRefusedMayComeAgain(t *testing.T) {
	s := New()
	l, b := two()
	wantBegin(t, s, 7, "a", 1)
	for i := range b {
		page := uint32(i + 1)
		wantNoChunk(t, s, 7, 1, page+1, b[i:i+1], api.ErrStage)
		wantNoChunk(t, s, 7, 1, page-1, b[i:i+1], api.ErrStage)
		wantNoChunk(t, s, 8, 1, page, b[i:i+1], api.ErrStage)
		wantNoChunk(t, s, 7, 1, page, make([]byte, api.MaxStaged-i+1), api.ErrFull)
		wantChunk(t, s, 7, 1, page, b[i:i+1])
	}
	wantCommit(t, s, 7, 1, "a", l)
}

func TestEmptyPieces(t *testing.T) {
	s := New()
	l, b := two()
	wantBegin(t, s, 7, "a", 1)
	page := uint32(0)
	for i := range b {
		for _, piece := range [][]byte{nil, {}, b[i : i+1], b[i:i], {}} {
			page++
			wantChunk(t, s, 7, 1, page, piece)
		}
	}
	wantHas(t, s, 1, len(b))
	wantCommit(t, s, 7, 1, "a", l)
	wantBegin(t, s, 7, "a", 2)
	for page := uint32(1); page <= 100_000; page++ {
		if e := s.Chunk(7, 2, page, nil); e != api.OK {
			t.Fatal(page, e)
		}
	}
	wantHas(t, s, 1, 0)
	wantPage(t, s, 7, 2, 100_001)
	wantNoChanges(t, s, 7, 2, api.ErrEnd)
}

func TestAsManyBytesAsMayBe(t *testing.T) {
	l := full(t)
	b := written(t, l)
	for _, cut := range [][]int{{4096}, {1, 4095}, {4095, 1}, {2048, 2048}, {0, 4096}, {4000, 95, 0, 1}, {1000, 1000, 1000, 1000, 96}} {
		s := New()
		wantBegin(t, s, 7, "a", 1)
		from, page := 0, uint32(0)
		for _, n := range cut {
			page++
			room := api.MaxStaged - from
			for _, more := range []int{room + 1, room + 2, api.MaxStaged + 1, 3 * api.MaxStaged} {
				wantNoChunk(t, s, 7, 1, page, make([]byte, more), api.ErrFull)
			}
			wantChunk(t, s, 7, 1, page, b[from:from+n])
			from += n
		}
		wantHas(t, s, 1, api.MaxStaged)
		wantNoChunk(t, s, 7, 1, page+1, []byte{1}, api.ErrFull)
		wantChunk(t, s, 7, 1, page+1, nil)
		wantNoChunk(t, s, 7, 1, page+2, []byte{1}, api.ErrFull)
		wantCommit(t, s, 7, 1, "a", l)
		wantHas(t, s, 0, 0)
	}
}

func TestEachUploadHasItsOwnBytes(t *testing.T) {
	s := New()
	l := full(t)
	b := written(t, l)
	for n := uint32(1); n <= 4; n++ {
		wantBegin(t, s, 7, fmt.Sprint("of ", n), n)
	}
	for n := uint32(1); n <= 4; n++ {
		wantNoChunk(t, s, 7, n, 1, make([]byte, api.MaxStaged+1), api.ErrFull)
		wantChunk(t, s, 7, n, 1, b)
		wantHas(t, s, 4, int(n)*api.MaxStaged)
		wantNoChunk(t, s, 7, n, 2, []byte{1}, api.ErrFull)
	}
	for n := uint32(4); n >= 1; n-- {
		wantCommit(t, s, 7, n, fmt.Sprint("of ", n), l)
		wantHas(t, s, int(n)-1, int(n-1)*api.MaxStaged)
	}
}

func TestWhichErrorComesFirst(t *testing.T) {
	s := New()
	long := make([]byte, api.MaxStaged+1)
	wantBegin(t, s, 7, "a", 1)
	wantNoChunk(t, s, 7, 1, 1, long, api.ErrFull)
	for _, page := range []uint32{0, 2, 3, math.MaxUint32} {
		wantNoChunk(t, s, 7, 1, page, long, api.ErrStage)
	}
	wantNoChunk(t, s, 8, 1, 1, long, api.ErrStage)
	wantNoChunk(t, s, 7, 2, 1, long, api.ErrStage)
	wantNoChunk(t, s, 7, 0, 0, long, api.ErrStage)
	wantChunk(t, s, 7, 1, 1, long[1:])
	wantNoChunk(t, s, 7, 1, 1, long[:1], api.ErrStage)
	wantNoChunk(t, s, 7, 1, 3, long[:1], api.ErrStage)
	wantNoChunk(t, s, 8, 1, 2, long[:1], api.ErrStage)
	wantNoChunk(t, s, 7, 1, 2, long[:1], api.ErrFull)
}

// P13.2

func TestCommitOfChanges(t *testing.T) {
	l, b := two()
	if !bytes.Equal(b, written(t, l)) {
		t.Fatalf("%v; want %v", written(t, l), b)
	}
	s := New()
	wantBegin(t, s, 7, "a", 1)
	wantChunk(t, s, 7, 1, 1, b)
	wantNotOwn(t, s, 8, 1)
	wantNotOwn(t, s, 7, 2)
	wantCommit(t, s, 7, 1, "a", l)
	wantHas(t, s, 0, 0)
}

func TestCommitOfNoChangesIsOfOneByte(t *testing.T) {
	s := New()
	wantBegin(t, s, 7, "a", 1)
	wantBegin(t, s, 7, "b", 2)
	wantNoChanges(t, s, 7, 1, api.ErrEnd)
	wantChunk(t, s, 7, 2, 1, []byte{0})
	wantCommit(t, s, 7, 2, "b", nil)
}

func TestCommitAsksNothingOfChanges(t *testing.T) {
	for _, l := range [][]api.Change{
		{put(0, nil)},
		{gone(0), gone(0)},
		{put(math.MaxUint32, []int32{math.MaxInt32, math.MinInt32}, "b", "a", "", "a")},
		{put(1, make([]int32, api.MaxItems))},
		{put(1, []int32{5}, strings.Repeat("t", 400), "\xff")},
		slices.Repeat([]api.Change{put(3, []int32{1})}, api.MaxItems),
		slices.Repeat([]api.Change{gone(math.MaxUint32)}, api.MaxItems),
	} {
		s := New()
		wantBegin(t, s, 7, "a", 1)
		wantChunk(t, s, 7, 1, 1, written(t, l))
		wantCommit(t, s, 7, 1, "a", l)
	}
}

func TestCommitOfWhatAreNoChanges(t *testing.T) {
	_, b := two()
	for _, c := range []struct {
		b    []byte
		want api.Errno
	}{
		{nil, api.ErrEnd},
		{b[:1], api.ErrEnd},
		{b[:len(b)-1], api.ErrEnd},
		{[]byte{128}, api.ErrEnd},
		{[]byte{1, 1, 128}, api.ErrEnd},
		{[]byte{1, 0, 1, 0, 1, 5, 97}, api.ErrEnd},
		{[]byte{128, 0}, api.ErrVar},
		{[]byte{1, 1, 255, 0}, api.ErrVar},
		{append(bytes.Repeat([]byte{255}, 9), 2), api.ErrVar},
		{[]byte{129, 1}, api.ErrForm},
		{[]byte{1, 2, 7}, api.ErrForm},
		{[]byte{1, 1, 128, 128, 128, 128, 16}, api.ErrForm},
		{[]byte{0, 0}, api.ErrMore},
		{append(slices.Clone(b), 0), api.ErrMore},
		{make([]byte, api.MaxStaged), api.ErrMore},
	} {
		s := New()
		wantBegin(t, s, 7, "a", 1)
		wantBegin(t, s, 7, "b", 2)
		wantChunk(t, s, 7, 1, 1, c.b)
		wantNoChanges(t, s, 7, 1, c.want)
		wantHas(t, s, 1, 0)
		wantLeave(t, s, 7, 1)
	}
}

func TestCommitTellsAsGetChanges(t *testing.T) {
	d := dice(11)
	errors := map[api.Errno]int{}
	for range 20000 {
		b := make([]byte, d.upTo(12))
		for i := range b {
			b[i] = []byte{0, 0, 0, 1, 1, 1, 2, 3, 97, 127, 128, 255}[d.upTo(12)]
		}
		s := New()
		wantBegin(t, s, 7, "a", 1)
		s.Chunk(7, 1, 1, b)
		want, wantErr := message.GetChanges(b)
		wantName := ""
		if wantErr == api.OK {
			wantName = "a"
		}
		name, l, e := s.Commit(7, 1)
		if name != wantName || !same(l, want) || e != wantErr || s.Len() != 0 {
			t.Fatalf("Commit of %v = %q, %v, %d; want %q, %v, %d", b, name, l, e, wantName, want, wantErr)
		}
		errors[e]++
	}
	for _, e := range []api.Errno{api.OK, api.ErrEnd, api.ErrVar, api.ErrForm, api.ErrMore} {
		if errors[e] < 20 {
			t.Errorf("%d of %d", errors[e], e)
		}
	}
}

func TestAbort(t *testing.T) {
	_, b := two()
	s := New()
	wantBegin(t, s, 7, "a", 1)
	wantBegin(t, s, 7, "b", 2)
	wantBegin(t, s, 8, "c", 3)
	wantChunk(t, s, 7, 1, 1, b)
	wantChunk(t, s, 8, 3, 1, b[:4])
	wantNotOwn(t, s, 8, 1)
	wantAbort(t, s, 7, 1)
	wantHas(t, s, 2, 4)
	wantAbort(t, s, 7, 2)
	wantHas(t, s, 1, 4)
	wantAbort(t, s, 8, 3)
	wantHas(t, s, 0, 0)
}

func TestOthersStayBehindCommitAndAbort(t *testing.T) {
	l, b := two()
	s := New()
	for n, owner := range []uint64{7, 7, 8, 7} {
		wantBegin(t, s, owner, fmt.Sprint("of ", n+1), uint32(n+1))
		wantChunk(t, s, owner, uint32(n+1), 1, b[:n+1])
	}
	wantNoChanges(t, s, 7, 2, api.ErrEnd)
	wantHas(t, s, 3, 8)
	wantAbort(t, s, 7, 1)
	wantHas(t, s, 2, 7)
	wantChunk(t, s, 8, 3, 2, b[3:])
	wantChunk(t, s, 7, 4, 2, b[4:])
	wantCommit(t, s, 8, 3, "of 3", l)
	wantHas(t, s, 1, len(b))
	wantCommit(t, s, 7, 4, "of 4", l)
}

// P13.3

func TestLeave(t *testing.T) {
	_, b := two()
	for _, c := range []struct {
		owners []uint64
		leaves uint64
		want   int
	}{
		{nil, 7, 0},
		{[]uint64{7}, 7, 1},
		{[]uint64{7}, 8, 0},
		{[]uint64{8, 7, 9}, 7, 1},
		{[]uint64{7, 8, 7}, 7, 2},
		{[]uint64{7, 7, 7, 7}, 7, 4},
		{[]uint64{7, 7, 7, 8}, 7, 3},
		{[]uint64{8, 9, 8, 9}, 7, 0},
		{[]uint64{0, 1, 0, math.MaxUint64}, 0, 2},
		{[]uint64{0, 1, 0, math.MaxUint64}, math.MaxUint64, 1},
		{[]uint64{1 << 32, 1, 1<<32 + 1, 1}, 1, 2},
	} {
		s := New()
		bytes := 0
		for i, owner := range c.owners {
			wantBegin(t, s, owner, "a", uint32(i+1))
			wantChunk(t, s, owner, uint32(i+1), 1, b[:i])
			if owner != c.leaves {
				bytes += i
			}
		}
		wantLeave(t, s, c.leaves, c.want)
		wantHas(t, s, len(c.owners)-c.want, bytes)
		wantLeave(t, s, c.leaves, 0)
		for i, owner := range c.owners {
			if owner == c.leaves {
				wantNone(t, s, uint32(i+1), owner)
			}
		}
		if s.Len() < api.MaxStages {
			wantBegin(t, s, c.leaves, "a", uint32(len(c.owners)+1))
			wantLeave(t, s, c.leaves, 1)
		}
	}
}

func TestOthersStayBehindLeave(t *testing.T) {
	l, b := two()
	s := New()
	for n, owner := range []uint64{7, 8, 7, 9} {
		wantBegin(t, s, owner, fmt.Sprint("of ", n+1), uint32(n+1))
		wantChunk(t, s, owner, uint32(n+1), 1, b[:n+1])
	}
	wantLeave(t, s, 7, 2)
	wantHas(t, s, 2, 2+4)
	wantLeave(t, s, 10, 0)
	wantChunk(t, s, 8, 2, 2, b[2:])
	wantPage(t, s, 9, 4, 2)
	wantBegin(t, s, 7, "new", 5)
	wantPage(t, s, 7, 5, 1)
	wantCommit(t, s, 8, 2, "of 2", l)
	wantLeave(t, s, 8, 0)
	wantChunk(t, s, 9, 4, 3, b[4:])
	wantCommit(t, s, 9, 4, "of 4", l)
	wantNoChanges(t, s, 7, 5, api.ErrEnd)
	wantHas(t, s, 0, 0)
}

func TestLeaveBehindCommitAndAbort(t *testing.T) {
	s := New()
	for n := uint32(1); n <= 4; n++ {
		wantBegin(t, s, 7, "a", n)
	}
	wantNoChanges(t, s, 7, 1, api.ErrEnd)
	wantAbort(t, s, 7, 4)
	wantLeave(t, s, 7, 2)
	wantLeave(t, s, 7, 0)
}

func TestLenAndBytes(t *testing.T) {
	s := New()
	wantHas(t, s, 0, 0)
	wantBegin(t, s, 7, "aname", 1)
	wantHas(t, s, 1, 0)
	wantChunk(t, s, 7, 1, 1, []byte{1, 2, 3})
	wantHas(t, s, 1, 3)
	wantBegin(t, s, 8, "b", 2)
	wantHas(t, s, 2, 3)
	wantChunk(t, s, 8, 2, 1, []byte{1, 1})
	wantHas(t, s, 2, 5)
	wantChunk(t, s, 7, 1, 2, []byte{6})
	wantHas(t, s, 2, 6)
	wantChunk(t, s, 7, 1, 3, nil)
	wantHas(t, s, 2, 6)
	wantNoChunk(t, s, 7, 1, 4, make([]byte, api.MaxStaged), api.ErrFull)
	wantHas(t, s, 2, 6)
	wantNoChanges(t, s, 8, 2, api.ErrEnd)
	wantHas(t, s, 1, 4)
	wantBegin(t, s, 7, "c", 3)
	wantChunk(t, s, 7, 3, 1, []byte{7})
	wantHas(t, s, 2, 5)
	wantAbort(t, s, 7, 1)
	wantHas(t, s, 1, 1)
	wantLeave(t, s, 7, 1)
	wantHas(t, s, 0, 0)
}
