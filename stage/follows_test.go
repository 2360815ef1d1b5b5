package stage

import (
	"bytes"
	"fmt"
	"math"
	"slices"
	"strings"
	"testing"

	"lodestar/api"
)

// P13.4

// anyChanges gives up to most changes, of whatever can be written, of at most MaxStaged bytes.
func anyChanges(t *testing.T, d *dice, most int) []api.Change {
	t.Helper()
	var l []api.Change
	for range d.upTo(most + 1) {
		id := []uint32{0, 1, 127, 128, 1 << 20, math.MaxUint32}[d.upTo(6)]
		if d.upTo(3) == 0 {
			l = append(l, gone(id))
			continue
		}
		var vec []int32
		for range d.upTo(5) {
			vec = append(vec, []int32{0, -1, 63, 64, 1 << 20, math.MinInt32}[d.upTo(6)])
		}
		var tags []string
		for range d.upTo(3) {
			tags = append(tags, strings.Repeat("\x00\xff", d.upTo(9)))
		}
		l = append(l, put(id, vec, tags...))
	}
	for len(written(t, l)) > api.MaxStaged {
		l = l[1:]
	}
	return l
}

// anyCut cuts b into pieces of up to most bytes, some of them empty.
func anyCut(d *dice, b []byte, most int) [][]byte {
	var l [][]byte
	for len(b) > 0 || d.upTo(3) == 0 {
		n := min(d.upTo(most+1), len(b))
		l = append(l, b[:n])
		b = b[n:]
	}
	return l
}

func TestChangesCutInWhateverPieces(t *testing.T) {
	d := dice(5)
	for i := range 400 {
		l := anyChanges(t, &d, []int{3, 20, api.MaxItems}[i%3])
		s := New()
		wantBegin(t, s, 7, "a", 1)
		for i, piece := range anyCut(&d, written(t, l), []int{1, 3, 50, 5000}[d.upTo(4)]) {
			wantChunk(t, s, 7, 1, uint32(i+1), piece)
		}
		wantCommit(t, s, 7, 1, "a", l)
	}
}

func TestChangesCutAnywhere(t *testing.T) {
	l, b := two()
	for i := range len(b) + 1 {
		for j := i; j <= len(b); j++ {
			s := New()
			wantBegin(t, s, 7, "a", 1)
			wantChunk(t, s, 7, 1, 1, b[:i])
			wantChunk(t, s, 7, 1, 2, b[i:j])
			wantChunk(t, s, 7, 1, 3, b[j:])
			wantCommit(t, s, 7, 1, "a", l)
		}
	}
}

func TestChangesByteByByte(t *testing.T) {
	of, _ := two()
	for _, l := range [][]api.Change{nil, of, full(t)} {
		s := New()
		wantBegin(t, s, 7, "a", 1)
		b := written(t, l)
		for i := range b {
			if e := s.Chunk(7, 1, uint32(i+1), b[i:i+1]); e != api.OK {
				t.Fatal(i, e)
			}
		}
		wantCommit(t, s, 7, 1, "a", l)
	}
}

func TestUploadsSideBySide(t *testing.T) {
	d := dice(7)
	for range 100 {
		s := New()
		var lists [api.MaxStages][]api.Change
		var pieces [api.MaxStages][][]byte
		var page [api.MaxStages]uint32
		for i := range lists {
			lists[i] = anyChanges(t, &d, 30)
			pieces[i] = anyCut(&d, written(t, lists[i]), 40)
			wantBegin(t, s, uint64(i/2), fmt.Sprint("of ", i), uint32(i+1))
		}
		for left := api.MaxStages; left > 0; {
			i := d.upTo(api.MaxStages)
			if int(page[i]) < len(pieces[i]) {
				page[i]++
				wantChunk(t, s, uint64(i/2), uint32(i+1), page[i], pieces[i][page[i]-1])
			} else if page[i] < math.MaxUint32 {
				page[i] = math.MaxUint32
				left--
				wantCommit(t, s, uint64(i/2), uint32(i+1), fmt.Sprint("of ", i), lists[i])
			}
		}
	}
}

func TestWhatIsCutOffGivesNothing(t *testing.T) {
	_, b := two()
	for i := range len(b) {
		s := New()
		wantBegin(t, s, 7, "a", 1)
		wantChunk(t, s, 7, 1, 1, b[:i])
		wantNoChanges(t, s, 7, 1, api.ErrEnd)
	}
}

func TestWhatIsNotCommittedGivesNothing(t *testing.T) {
	l, b := two()
	s := New()
	wantBegin(t, s, 7, "a", 1)
	wantChunk(t, s, 7, 1, 1, b)
	wantAbort(t, s, 7, 1)
	wantBegin(t, s, 7, "b", 2)
	wantChunk(t, s, 7, 2, 1, b)
	wantLeave(t, s, 7, 1)
	wantNone(t, s, 2)
	wantBegin(t, s, 7, "c", 3)
	wantNoChanges(t, s, 7, 3, api.ErrEnd)
	wantBegin(t, s, 7, "d", 4)
	wantChunk(t, s, 7, 4, 1, b)
	wantCommit(t, s, 7, 4, "d", l)
	wantHas(t, s, 0, 0)
}

func TestBytesAreNeverTooMany(t *testing.T) {
	s := New()
	d := dice(9)
	var page [100]uint32
	most := 0
	for range 20000 {
		n := uint32(d.upTo(9))
		if _, e := s.Begin(uint64(d.upTo(2)), "a"); e == api.OK {
			continue
		}
		for owner := range uint64(2) {
			if s.Chunk(owner, n, page[n]+1, make([]byte, d.upTo(300))) == api.OK {
				page[n]++
			}
		}
		most = max(most, s.Bytes())
		if s.Len() > api.MaxStages || s.Bytes() > api.MaxStages*api.MaxStaged {
			t.Fatalf("%d uploads, %d bytes", s.Len(), s.Bytes())
		}
	}
	if most < api.MaxStages*api.MaxStaged-20 {
		t.Errorf("%d bytes at most", most)
	}
}

// DOC.md's rules

func TestPiecesMayBeWrittenOver(t *testing.T) {
	l, b := two()
	s := New()
	wantBegin(t, s, 7, "a", 1)
	room := make([]byte, 100)
	for i, page := 0, uint32(1); i < len(b); page++ {
		n := copy(room[:page], b[i:])
		wantChunk(t, s, 7, 1, page, room[:n])
		for j := range room {
			room[j] = 200
		}
		i += n
	}
	wantCommit(t, s, 7, 1, "a", l)
}

func TestOneMemoryForSeveralUploads(t *testing.T) {
	l, b := two()
	room := slices.Grow(slices.Clone(b[:5]), 100)
	s := New()
	for n := uint32(1); n <= 3; n++ {
		wantBegin(t, s, 7, "a", n)
		wantChunk(t, s, 7, n, 1, room)
	}
	wantChunk(t, s, 7, 1, 2, []byte{9, 9, 9})
	for n := uint32(2); n <= 3; n++ {
		wantChunk(t, s, 7, n, 2, b[5:])
	}
	wantCommit(t, s, 7, 2, "a", l)
	wantCommit(t, s, 7, 3, "a", l)
}

func TestPiecesAreNotChanged(t *testing.T) {
	_, b := two()
	room := bytes.Repeat([]byte{77}, 300)
	s := New()
	wantBegin(t, s, 7, "a", 1)
	for i, page := 0, uint32(1); i < len(b); i, page = i+1, page+1 {
		at := 20 * i
		room[at] = b[i]
		wantChunk(t, s, 7, 1, page, room[at:at+1])
	}
	wantNoChunk(t, s, 7, 1, 1, room[:200], api.ErrStage)
	s.Commit(7, 1)
	for i, got := range room {
		want := byte(77)
		if i%20 == 0 && i/20 < len(b) {
			want = b[i/20]
		}
		if got != want {
			t.Fatalf("the byte %d is %d; want %d", i, got, want)
		}
	}
}

func TestToldChangesMayBeWrittenOver(t *testing.T) {
	want, b := two()
	s := New()
	for n := uint32(1); n <= 4; n++ {
		wantBegin(t, s, 7, "a", n)
		wantChunk(t, s, 7, n, 1, b)
	}
	var kept [][]api.Change
	for n := uint32(1); n <= 3; n++ {
		_, l, _ := s.Commit(7, n)
		kept = append(kept, l)
	}
	overwrite(kept[0])
	for _, l := range kept[1:] {
		if !same(l, want) {
			t.Errorf("%v; want %v", l, want)
		}
	}
	wantCommit(t, s, 7, 4, "a", want)
	wantBegin(t, s, 7, "a", 5)
	wantChunk(t, s, 7, 5, 1, b)
	wantCommit(t, s, 7, 5, "a", want)
}

// overwrite writes over l, its vectors and tags, and the spare room of each.
func overwrite(l []api.Change) {
	for i := range l {
		vec, tags := l[i].Item.Vec, l[i].Item.Tags
		for j := range vec[:cap(vec)] {
			vec[:cap(vec)][j] = -99
		}
		for j := range tags[:cap(tags)] {
			tags[:cap(tags)][j] = "over"
		}
	}
	for i := range l[:cap(l)] {
		l[:cap(l)][i] = gone(99)
	}
}

func TestListsOfOneAnswerShareNoMemory(t *testing.T) {
	l := []api.Change{put(1, []int32{1, 2, 3}, "a", "b", "c"), put(2, []int32{1, 2, 3}, "a", "b", "c"), put(3, nil), put(4, []int32{9}, "z")}
	s := New()
	wantBegin(t, s, 7, "a", 1)
	wantChunk(t, s, 7, 1, 1, written(t, l))
	_, told, _ := s.Commit(7, 1)
	first := told[:1:1]
	vec, tags := first[0].Item.Vec, first[0].Item.Tags
	_, _ = append(vec, 5, 5, 5, 5), append(tags, "x", "x", "x", "x")
	for i := range vec {
		vec[i] = -1
	}
	for i := range tags {
		tags[i] = "over"
	}
	if !same(told[1:], l[1:]) {
		t.Errorf("%v; want %v", told[1:], l[1:])
	}
}

func TestTablesAreApart(t *testing.T) {
	l, b := two()
	s, other := New(), New()
	wantBegin(t, s, 7, "a", 1)
	wantChunk(t, s, 7, 1, 1, b)
	wantHas(t, other, 0, 0)
	wantNotOwn(t, other, 7, 1)
	wantBegin(t, other, 7, "b", 1)
	wantPage(t, other, 7, 1, 1)
	wantHas(t, s, 1, len(b))
	wantLeave(t, other, 7, 1)
	for n := uint32(2); n <= 5; n++ {
		wantBegin(t, other, 7, "b", n)
	}
	wantFull(t, other, 7, "b")
	wantBegin(t, s, 7, "c", 2)
	wantCommit(t, s, 7, 1, "a", l)
}

func TestTheSameDoneTwiceAnswersTheSame(t *testing.T) {
	script := func() string {
		s := New()
		d := dice(13)
		var told []string
		for range 2000 {
			owner, n := uint64(d.upTo(3)), uint32(d.upTo(12))
			switch d.upTo(6) {
			case 0, 1:
				n, e := s.Begin(owner, "a")
				told = append(told, fmt.Sprint(n, e))
			case 2:
				name, l, e := s.Commit(owner, n)
				told = append(told, fmt.Sprint(name, l, e))
			case 3:
				told = append(told, fmt.Sprint(s.Leave(owner), s.Len(), s.Bytes()))
			default:
				told = append(told, fmt.Sprint(s.Chunk(owner, n, 1, []byte{1, 1, byte(d.upTo(100))})))
			}
		}
		return strings.Join(told, ",")
	}
	if script() != script() {
		t.Error("two tables to which the same was done differ")
	}
}
