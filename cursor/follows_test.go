package cursor

import (
	"fmt"
	"math"
	"slices"
	"strings"
	"testing"

	"lodestar/api"
)

// P14.4

func TestAPageAskedForAgainAsksForTheSame(t *testing.T) {
	d := dice(7)
	for range 200 {
		s := New(5)
		wantOpen(t, s, 7, 5, 0, 1)
		want := first(5)
		for page := uint32(1); page <= 20; page++ {
			l := anyHits(&d)
			for range 1 + d.upTo(3) {
				wantTake(t, s, 7, 1, page, uint32(d.upTo(9)), want)
				s.Told(1, page, l)
				wantTake(t, s, 7, 1, page, uint32(d.upTo(9)), want)
			}
			if len(l) > 0 {
				want.Has, want.Last = true, l[len(l)-1]
			}
		}
	}
}

func TestAPageAsksForTheSameWhateverElseIsDone(t *testing.T) {
	d := dice(9)
	for range 200 {
		s := New(1000)
		wantOpen(t, s, 7, 5, 50, 1)
		s.Told(1, 1, hits(1))
		s.Told(1, 2, hits(2))
		for n := uint32(2); n < 40; n++ {
			open(s, 8, 6, uint32(d.upTo(50)))
			s.Told(n, 1, anyHits(&d))
			s.Take(8, n, 1, uint32(d.upTo(50)))
			s.Tick(uint32(d.upTo(50)))
			if d.upTo(9) == 0 {
				s.Leave(8)
			}
			wantTake(t, s, 7, 1, 2, 50, behind(5, 1))
			wantTake(t, s, 7, 1, 3, 50, behind(5, 2))
		}
	}
}

func TestAllHitsPageByPage(t *testing.T) {
	d := dice(11)
	for range 200 {
		var all []api.Hit
		for n := range d.upTo(40) {
			all = append(all, hit(n+1))
		}
		s := New(5)
		wantOpen(t, s, 7, 5, 0, 1)
		var told []api.Hit
		for page := uint32(1); len(told) < len(all); page++ {
			most := d.upTo(5)
			for range 1 + d.upTo(3) {
				a, e := s.Take(7, 1, page, 0)
				from := 0
				if a.Has {
					from = int(a.Last.Id)
				}
				if e != api.OK || a.Has != (len(told) > 0) || from != len(told) {
					t.Fatalf("page %d = %v, %d; want it to be behind %d", page, a, e, len(told))
				}
				s.Told(1, page, all[from:min(from+most, len(all))])
			}
			told = all[:min(len(told)+most, len(all))]
		}
	}
}

func TestOneThatIsGoneIsGoneForEver(t *testing.T) {
	s := filled(t, 3, 1, 2, 3, 4, 5, 6, 7, 8)
	gone := uint32(3)
	wantPush(t, s, 7, 30, 9, 9, 11)
	wantClose(t, s, 7, 2, 12)
	wantTick(t, s, 7, 13)
	for round := range uint32(20) {
		for n := range gone + 1 {
			wantNone(t, s, n)
		}
		n, _ := open(s, 7, 40, round)
		s.Told(n, 1, hits(1))
		s.Told(n, 2, hits(2))
		if round == 10 {
			s.Leave(7)
			gone = n
		}
	}
}

// DOC.md's rules

func TestWhatWasHandedInMayBeWrittenOver(t *testing.T) {
	vec, f := append(make([]int32, 0, 9), someVec()...), someFilter()
	f.Any = append(make([]string, 0, 9), f.Any...)
	l := append(make([]api.Hit, 0, 9), hits(1, 2)...)
	s := New(3)
	for n := uint32(1); n <= 2; n++ {
		if got, _ := s.Open(7, 5, vec, f, 0); got != n {
			t.Fatal(got)
		}
		s.Told(n, 1, l)
	}
	overwrite(api.Ask{Vec: vec, Filter: f})
	for i := range l[:cap(l)] {
		l[:cap(l)][i] = hit(99)
	}
	for n := uint32(1); n <= 2; n++ {
		wantPages(t, s, 7, n, 1, 0, first(5), behind(5, 2))
	}
}

// overwrite writes over all lists of an ask, and the spare room of each.
func overwrite(a api.Ask) {
	for i := range a.Vec[:cap(a.Vec)] {
		a.Vec[:cap(a.Vec)][i] = -99
	}
	for _, l := range [][]string{a.Filter.All, a.Filter.Any, a.Filter.None} {
		for i := range l[:cap(l)] {
			l[:cap(l)][i] = "over"
		}
	}
}

func TestToldAsksMayBeWrittenOver(t *testing.T) {
	s := New(3)
	wantOpen(t, s, 7, 5, 0, 1)
	wantOpen(t, s, 7, 6, 0, 2)
	kept, _ := s.Take(7, 1, 1, 0)
	for range 3 {
		a, _ := s.Take(7, 1, 1, 0)
		overwrite(a)
	}
	s.Told(1, 1, hits(1))
	for range 3 {
		a, _ := s.Take(7, 1, 2, 0)
		overwrite(a)
	}
	wantPages(t, s, 7, 1, 1, 0, first(5), behind(5, 1))
	wantPages(t, s, 7, 2, 0, 0, api.Ask{}, first(6))
	if !same(kept, first(5)) {
		t.Errorf("%v; want %v", kept, first(5))
	}
}

func TestListsOfOneAskShareNoMemory(t *testing.T) {
	one := slices.Repeat([]string{"t"}, 3)
	s := New(3)
	s.Open(7, 5, someVec(), api.Filter{All: one, Any: one, None: one}, 0)
	for i := range 3 {
		a, _ := s.Take(7, 1, 1, 0)
		lists := [...][]string{a.Filter.All, a.Filter.Any, a.Filter.None}
		all := lists[i][:cap(lists[i])]
		for j := range all {
			all[j] = "over"
		}
		for j, l := range lists {
			if j != i && !slices.Equal(l, one) {
				t.Errorf("%v; want %v", l, one)
			}
		}
	}
}

func TestWhatIsHandedInIsNotChanged(t *testing.T) {
	vec := slices.Repeat([]int32{77}, 20)
	text := slices.Repeat([]string{"t"}, 20)
	page := slices.Repeat(hits(7), 20)
	s := New(3)
	for n := uint32(1); n <= 12; n++ {
		s.Open(7, 5, vec[2:4], api.Filter{All: text[2:4], Any: text[6:8], None: text[10:12]}, 0)
		s.Take(7, n, 1, 0)
		s.Told(n, 1, page[2:4])
		s.Told(n, 1, page[6:6])
		s.Told(n, 2, page[8:9])
	}
	s.Leave(7)
	if !slices.Equal(vec, slices.Repeat([]int32{77}, 20)) || !slices.Equal(text, slices.Repeat([]string{"t"}, 20)) || !slices.Equal(page, slices.Repeat(hits(7), 20)) {
		t.Error(vec, text, page)
	}
}

func TestToldPinsMayBeWrittenOver(t *testing.T) {
	s := filled(t, 3, 0, 0, 9, 9, 9, 9, 9, 9)
	old := s.Tick(9)
	for n := uint32(9); n <= 10; n++ {
		wantOpen(t, s, 8, int(10+n), 0, n)
	}
	for i := range old[:cap(old)] {
		old[:cap(old)][i] = 99
	}
	left := s.Leave(7)
	wantTick(t, s, 9, 19, 20)
	if !slices.Equal(left, []int{13, 14, 15, 16, 17, 18}) {
		t.Error(left)
	}
}

func TestTablesAreApart(t *testing.T) {
	s, other := New(3), New(math.MaxUint32)
	wantOpen(t, s, 7, 5, 0, 1)
	s.Told(1, 1, hits(1))
	wantLen(t, other, 0)
	wantNone(t, other, 1)
	for n := uint32(1); n <= api.MaxCursors; n++ {
		wantOpen(t, other, 7, 6, 0, n)
	}
	wantPush(t, other, 7, 7, 0, 9, 6)
	wantLen(t, s, 1)
	wantLeave(t, other, 7, 6, 6, 6, 6, 6, 6, 6, 7)
	wantOpen(t, s, 7, 8, 0, 2)
	wantPages(t, s, 7, 1, 1, 0, first(5), behind(5, 1))
	wantTick(t, other, math.MaxUint32)
	wantTick(t, s, 4, 5, 8)
}

func TestTheSameDoneTwiceAnswersTheSame(t *testing.T) {
	script := func() string {
		s := New(9)
		d := dice(13)
		var told []string
		for now := range uint32(3000) {
			owner, n, page := uint64(d.upTo(3)), uint32(d.upTo(2000)), uint32(d.upTo(3))
			switch d.upTo(8) {
			case 0, 1, 2, 3, 4:
				n, went := open(s, owner, d.upTo(100), now/4)
				s.Told(n, page, anyHits(&d))
				told = append(told, fmt.Sprint(n, went))
			case 5:
				told = append(told, fmt.Sprint(s.Tick(now/4-uint32(d.upTo(2))), s.Len()))
			case 6:
				told = append(told, fmt.Sprint(s.Leave(owner)))
			default:
				a, e := s.Take(owner, n, page, now/4)
				told = append(told, fmt.Sprint(a, e))
			}
		}
		return strings.Join(told, ",")
	}
	if script() != script() {
		t.Error("two tables to which the same was done differ")
	}
}
