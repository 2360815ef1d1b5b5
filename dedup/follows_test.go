package dedup

import (
	"fmt"
	"math"
	"reflect"
	"slices"
	"strings"
	"testing"

	"lodestar/api"
)

// P16.4

func TestEachNumberIsFreshOnceThenAgainThenPast(t *testing.T) {
	d := dice(5)
	s := New()
	was := map[uint32]api.Verdict{}
	for range 20_000 {
		from := s.Done() - min(s.Done(), 40)
		for req := from; req <= s.Done()+3; req++ {
			_, v := s.Ask(req)
			if order(v) < order(was[req]) {
				t.Fatalf("%d is %d, and was %d", req, v, was[req])
			}
			was[req] = v
			if v == api.Again {
				wantAsk(t, s, req, v, api.Message{N: req, Vec: []int32{int32(req)}})
			}
		}
		next := s.Done() + 1
		if s.Keep(next, api.Message{N: next, Vec: []int32{int32(next)}}) == api.OK {
			was[next] = api.Again
		}
		s.Ack(from + uint32(d.upTo(45)))
	}
	if s.Done() < 10_000 || s.Acked() < 10_000 {
		t.Fatalf("%d, %d: too few for a test", s.Done(), s.Acked())
	}
	for req := range s.Acked() + 1 {
		wantNoAnswer(t, s, api.Past, req)
	}
}

// order gives verdicts as they follow one another for one number.
func order(v api.Verdict) int {
	return slices.Index([]api.Verdict{0, api.Gap, api.Fresh, api.Again, api.Past}, v)
}

func TestFreshTillItIsDone(t *testing.T) {
	s := made(t, 16, 0)
	for range 5 {
		wantNoAnswer(t, s, api.Fresh, 17)
		wantNoKeep(t, s, api.ErrFull, 17)
	}
	wantAck(t, s, 1, api.OK)
	wantNoAnswer(t, s, api.Fresh, 17)
	wantKeep(t, s, 17)
	wantAsk(t, s, 17, api.Again, full(17))
}

func TestTheSameAnswerTillItIsAcknowledged(t *testing.T) {
	s := made(t, 16, 15)
	for n := uint32(17); n <= 31; n++ {
		wantKeep(t, s, n)
		wantNoKeep(t, s, api.ErrArg, 16)
		for range 3 {
			wantAsk(t, s, 16, api.Again, full(16))
		}
	}
	wantNoKeep(t, s, api.ErrFull, 32)
	wantAsk(t, s, 16, api.Again, full(16))
	wantAck(t, s, 16, api.OK)
	wantNoAnswer(t, s, api.Past, 16)
}

func TestPastForEver(t *testing.T) {
	s := made(t, 10, 0)
	wantAck(t, s, 7, api.OK)
	for n := uint32(11); n <= 500; n++ {
		wantKeep(t, s, n)
		wantAck(t, s, n/2, api.OK)
		wantNoKeep(t, s, api.ErrArg, 0, 1, 3, 7)
		wantNoAnswer(t, s, api.Past, 0, 1, 3, 6, 7)
		wantAck(t, s, n-3, api.OK)
	}
}

// What is kept

func TestAnswersOfEveryKind(t *testing.T) {
	for kind := range 256 {
		s := New()
		x, y := full(uint32(kind)), api.Message{Kind: byte(kind)}
		x.Kind = byte(kind)
		if e := s.Keep(1, x) + s.Keep(2, y); e != api.OK {
			t.Fatal(kind, e)
		}
		wantTable(t, s, 0, x, y)
	}
}

func TestAnswersWithOneField(t *testing.T) {
	s := New()
	all := reflect.ValueOf(full(3))
	for i := range all.NumField() {
		var x api.Message
		reflect.ValueOf(&x).Elem().Field(i).Set(all.Field(i))
		n := uint32(i + 1)
		if e := s.Keep(n, x); e != api.OK {
			t.Fatal(all.Type().Field(i).Name, e)
		}
		wantAsk(t, s, n, api.Again, x)
		wantAck(t, s, n, api.OK)
	}
}

func TestAnAnswerIsKeptWhateverItTells(t *testing.T) {
	long := slices.Repeat([]int32{math.MinInt32, math.MaxInt32}, 50_000)
	many := slices.Repeat([]api.Item{{Id: math.MaxUint32, Vec: long[:20], Tags: []string{"b", "", "a"}}}, 5000)
	for _, a := range []api.Message{
		{}, {Req: 7}, {Req: math.MaxUint32, Kind: 255, Code: 255, Token: math.MaxUint64, Version: math.MaxUint64},
		{Kind: api.Hello}, {Vec: long}, {Items: many}, {Name: strings.Repeat("n", 5000)}, {Names: []string{"", "\x00\xff", ""}},
		{Conf: api.Conf{Name: "a", Dim: 255, Metric: 255, Graph: true, Links: 255, Width: 65535}},
	} {
		s := New()
		if e := s.Keep(1, a); e != api.OK {
			t.Fatal(e)
		}
		wantTable(t, s, 0, a)
	}
}

func TestNoListsAndEmptyOnes(t *testing.T) {
	empty := api.Message{Changes: []api.Change{}, Vec: []int32{}, Bytes: []byte{}, Names: []string{}, Items: []api.Item{}, Hits: []api.Hit{},
		Filter: api.Filter{All: []string{}, Any: []string{}, None: []string{}}}
	inside := api.Message{Changes: []api.Change{{Item: api.Item{Vec: []int32{}, Tags: []string{}}}, {}}, Items: []api.Item{{Vec: []int32{}, Tags: []string{}}, {}}}
	s := New()
	if e := s.Keep(1, empty) + s.Keep(2, inside); e != api.OK {
		t.Fatal(e)
	}
	wantTable(t, s, 0, api.Message{}, api.Message{Changes: make([]api.Change, 2), Items: make([]api.Item, 2)})
}

func TestNoMoreIsKeptThanMayBeAskedFor(t *testing.T) {
	s := New()
	for n := uint32(1); n <= 100_000; n++ {
		if e := s.Keep(n, api.Message{N: n}); e != api.OK {
			t.Fatal(n, e)
		}
		if n%api.MaxKept == 0 {
			wantAck(t, s, n-n%7, api.OK)
			wantAck(t, s, n, api.OK)
		}
		wantKept(t, s)
	}
}

// DOC.md's rules

func TestWhatWasHandedInMayBeWrittenOver(t *testing.T) {
	s := New()
	for n := uint32(1); n <= 3; n++ {
		a := full(n)
		if e := s.Keep(n, a); e != api.OK {
			t.Fatal(e)
		}
		overwrite(&a)
	}
	wantTable(t, s, 0, full(1), full(2), full(3))
}

func TestToldAnswersMayBeWrittenOver(t *testing.T) {
	s := made(t, 3, 0)
	first, _ := s.Ask(2)
	for range 3 {
		for n := uint32(1); n <= 3; n++ {
			a, _ := s.Ask(n)
			overwrite(&a)
		}
	}
	wantTable(t, s, 0, full(1), full(2), full(3))
	wantAck(t, s, 2, api.OK)
	wantKeep(t, s, 4)
	wantAnswer(t, "an answer that was told ahead", first, full(2))
}

func TestListsOfOneAnswerShareNoMemory(t *testing.T) {
	vec, text := slices.Repeat([]int32{7}, 3), slices.Repeat([]string{"t"}, 3)
	item := api.Item{Id: 1, Vec: vec, Tags: text}
	shared := api.Message{Vec: vec, Names: text, Filter: api.Filter{All: text, Any: text, None: text},
		Items: []api.Item{item, item, item}, Changes: []api.Change{{Item: item}, {Item: item}, {Item: item}}}
	s := New()
	if e := s.Keep(1, shared); e != api.OK {
		t.Fatal(e)
	}
	a, _ := s.Ask(1)
	vecs, texts := [][]int32{a.Vec}, [][]string{a.Names, a.Filter.All, a.Filter.Any, a.Filter.None}
	for i := range 3 {
		vecs = append(vecs, a.Items[i].Vec, a.Changes[i].Item.Vec)
		texts = append(texts, a.Items[i].Tags, a.Changes[i].Item.Tags)
	}
	wantApart(t, vecs, vec, -99)
	wantApart(t, texts, text, "over")
	wantTable(t, s, 0, shared)
}

// wantApart wants lists that are all as want to stay so while the others are written over, one after the other, with their spare room.
func wantApart[T comparable](t *testing.T, lists [][]T, want []T, over T) {
	t.Helper()
	for i, l := range lists {
		if !slices.Equal(l, want) {
			t.Errorf("the list %d: %v; want %v", i, l, want)
		}
		all := l[:cap(l)]
		for j := range all {
			all[j] = over
		}
	}
}

func TestWhatIsHandedInIsNotChanged(t *testing.T) {
	a, b := full(3), full(3)
	s := New()
	for n := uint32(1); n <= 20; n++ {
		s.Keep(n, a)
		s.Keep(n+1, a)
		s.Keep(0, a)
		s.Ask(n)
		s.Ack(n / 2)
	}
	if room(a) != room(b) {
		t.Errorf("%s; want %s", room(a), room(b))
	}
}

// room gives all that a message has, with the spare room of its lists.
func room(x api.Message) string {
	l := []any{x, x.Changes[:cap(x.Changes)], x.Vec[:cap(x.Vec)], x.Bytes[:cap(x.Bytes)], x.Names[:cap(x.Names)], x.Items[:cap(x.Items)], x.Hits[:cap(x.Hits)]}
	for _, texts := range [][]string{x.Filter.All, x.Filter.Any, x.Filter.None} {
		l = append(l, texts[:cap(texts)])
	}
	items := slices.Clone(x.Items)
	for _, c := range x.Changes {
		items = append(items, c.Item)
	}
	for _, i := range items {
		l = append(l, i.Vec[:cap(i.Vec)], i.Tags[:cap(i.Tags)])
	}
	return fmt.Sprint(l...)
}

func TestTablesAreApart(t *testing.T) {
	s, other := made(t, 5, 2), New()
	wantTable(t, other, 0)
	for n := uint32(1); n <= 5; n++ {
		if e := other.Keep(n, full(100+n)); e != api.OK {
			t.Fatal(e)
		}
	}
	wantAck(t, other, 4, api.OK)
	wantTable(t, s, 2, full(3), full(4), full(5))
	wantTable(t, other, 4, full(105))
	wantAck(t, s, 5, api.OK)
	wantKeep(t, s, 6)
	wantTable(t, other, 4, full(105))
	wantTable(t, s, 5, full(6))
}

func TestTheSameDoneTwiceAnswersTheSame(t *testing.T) {
	script := func() string {
		s := New()
		d := dice(13)
		var told []string
		for i := range 3000 {
			n := s.Acked() + uint32(d.upTo(22))
			switch d.upTo(4) {
			case 0:
				told = append(told, fmt.Sprint(s.Ack(n), s.Keep(n, full(uint32(i)))))
			case 1:
				a, v := s.Ask(n)
				told = append(told, fmt.Sprint(v, a))
			default:
				told = append(told, fmt.Sprint(s.Keep(s.Done()+1, full(uint32(i))), s.Len(), s.Done(), s.Acked()))
			}
		}
		return strings.Join(told, ",")
	}
	if script() != script() {
		t.Error("two tables to which the same was done differ")
	}
}
