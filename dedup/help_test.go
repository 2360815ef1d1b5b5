package dedup

import (
	"fmt"
	"math"
	"reflect"
	"testing"

	"lodestar/api"
)

// full gives a message in which every field is set, by numbers that tell of n. All its lists have things, and spare room.
func full(n uint32) api.Message {
	var x api.Message
	next := uint64(n) * 1000
	fill(reflect.ValueOf(&x).Elem(), &next)
	return x
}

// fill sets all that v has to what comes next, lists to two things (and as many in their spare room).
func fill(v reflect.Value, next *uint64) {
	*next++
	switch v.Kind() {
	case reflect.Bool:
		v.SetBool(true)
	case reflect.String:
		v.SetString(fmt.Sprint("text ", *next))
	case reflect.Slice:
		v.Set(reflect.MakeSlice(v.Type(), 4, 4))
		for i := range 4 {
			fill(v.Index(i), next)
		}
		v.Set(v.Slice(0, 2))
	case reflect.Struct:
		for i := range v.NumField() {
			fill(v.Field(i), next)
		}
	case reflect.Int32, reflect.Int64:
		v.SetInt(-int64(*next) - 1)
	case reflect.Uint8:
		v.SetUint(*next%255 + 1)
	case reflect.Uint16:
		v.SetUint(*next%65535 + 1)
	case reflect.Uint32, reflect.Uint64:
		v.SetUint(*next)
	default:
		panic("a field of another kind: " + v.Type().String())
	}
}

// overwrite writes over all lists of a message, over those in them, and over the spare room of each.
func overwrite(x *api.Message) {
	overwriteIn(reflect.ValueOf(x).Elem())
}

func overwriteIn(v reflect.Value) {
	switch v.Kind() {
	case reflect.Struct:
		for i := range v.NumField() {
			overwriteIn(v.Field(i))
		}
	case reflect.Slice:
		all := v.Slice(0, v.Cap())
		for i := range all.Len() {
			overwriteIn(all.Index(i))
			next := uint64(987654)
			fill(all.Index(i), &next)
		}
	}
}

// same tells whether two messages are alike, field by field. No list and an empty one are.
func same(a, b api.Message) bool {
	return sameIn(reflect.ValueOf(a), reflect.ValueOf(b))
}

func sameIn(v, w reflect.Value) bool {
	switch v.Kind() {
	case reflect.Struct:
		for i := range v.NumField() {
			if !sameIn(v.Field(i), w.Field(i)) {
				return false
			}
		}
		return true
	case reflect.Slice:
		if v.Len() != w.Len() {
			return false
		}
		for i := range v.Len() {
			if !sameIn(v.Index(i), w.Index(i)) {
				return false
			}
		}
		return true
	}
	return v.Equal(w)
}

// wantAnswer wants a message to be another one, field by field.
func wantAnswer(t *testing.T, what string, a, want api.Message) {
	t.Helper()
	if !same(a, want) {
		t.Fatalf("%s: %+v; want %+v", what, a, want)
	}
}

// wantAsk wants a number to be of that verdict, and the answer to be told.
func wantAsk(t *testing.T, s *Table, req uint32, want api.Verdict, answer api.Message) {
	t.Helper()
	a, v := s.Ask(req)
	if v != want {
		t.Fatalf("Ask(%d) tells %d; want %d", req, v, want)
	}
	wantAnswer(t, fmt.Sprint("Ask of ", req), a, answer)
	if v != api.Again && !reflect.DeepEqual(a, api.Message{}) {
		t.Fatalf("Ask(%d) tells %d, and the answer %+v", req, v, a)
	}
}

// wantNoAnswer wants numbers to be of that verdict, and no answer to be told.
func wantNoAnswer(t *testing.T, s *Table, want api.Verdict, reqs ...uint32) {
	t.Helper()
	for _, req := range reqs {
		wantAsk(t, s, req, want, api.Message{})
	}
}

// wantNumbers wants the table's numbers to be these.
func wantNumbers(t *testing.T, s *Table, done, acked uint32, many int) {
	t.Helper()
	if s.Done() != done || s.Acked() != acked || s.Len() != many {
		t.Fatalf("done %d, acknowledged %d, kept %d; want %d, %d, %d", s.Done(), s.Acked(), s.Len(), done, acked, many)
	}
}

// wantTable wants the requests up to acked to be acknowledged, and those behind it to be done, with these answers, and all that is told to be just so.
func wantTable(t *testing.T, s *Table, acked uint32, answers ...api.Message) {
	t.Helper()
	done := acked + uint32(len(answers))
	wantNumbers(t, s, done, acked, len(answers))
	for _, req := range []uint32{0, 1, 2, acked / 2, acked - 2, acked - 1, acked} {
		if req <= acked {
			wantNoAnswer(t, s, api.Past, req)
		}
	}
	for i, a := range answers {
		wantAsk(t, s, acked+1+uint32(i), api.Again, a)
	}
	wantNoAnswer(t, s, api.Fresh, done+1)
	wantNoAnswer(t, s, api.Gap, done+2, done+3, done+17, done+1<<8+1, done+1<<16+1, done+1<<31+1, math.MaxUint32-1, math.MaxUint32)
	wantNumbers(t, s, done, acked, len(answers))
	wantKept(t, s)
}

// wantKept wants no other answers to be kept than those between the two numbers.
func wantKept(t *testing.T, s *Table) {
	t.Helper()
	for n := range s.answers {
		if n <= s.Acked() || n > s.Done() {
			t.Fatalf("the answer %d is kept, beside %d to %d", n, s.Acked()+1, s.Done())
		}
	}
	if s.Len() > api.MaxKept || s.Len() != int(s.Done()-s.Acked()) {
		t.Fatalf("%d answers of the requests %d to %d", s.Len(), s.Acked()+1, s.Done())
	}
}

// wantKeep wants a number to be done, with the answer that is its own.
func wantKeep(t *testing.T, s *Table, req uint32) {
	t.Helper()
	if e := s.Keep(req, full(req)); e != api.OK {
		t.Fatalf("Keep(%d) = %d, behind %d", req, e, s.Done())
	}
}

// wantNoKeep wants numbers not to be done, by the error want, whatever the answer.
func wantNoKeep(t *testing.T, s *Table, want api.Errno, reqs ...uint32) {
	t.Helper()
	for _, req := range reqs {
		for _, a := range []api.Message{{}, {Kind: api.Answer, Req: req}, full(77)} {
			if e := s.Keep(req, a); e != want {
				t.Fatalf("Keep(%d) = %d, behind %d; want %d", req, e, s.Done(), want)
			}
		}
	}
}

// wantAck wants an acknowledgement to be taken, or to be refused by the error want.
func wantAck(t *testing.T, s *Table, n uint32, want api.Errno) {
	t.Helper()
	if e := s.Ack(n); e != want {
		t.Fatalf("Ack(%d) = %d, done %d, acknowledged %d; want %d", n, e, s.Done(), s.Acked(), want)
	}
}

// fulls gives the answers that wantKeep kept for the numbers behind one, up to another one.
func fulls(behind, upTo uint32) []api.Message {
	var l []api.Message
	for n := behind + 1; n <= upTo; n++ {
		l = append(l, full(n))
	}
	return l
}

// made gives a table of which so many were done, and so many of these acknowledged.
func made(t *testing.T, done, acked uint32) *Table {
	t.Helper()
	s := New()
	for n := uint32(1); n <= done; n++ {
		wantKeep(t, s, n)
		if n <= acked {
			wantAck(t, s, n, api.OK)
		}
	}
	return s
}

// counted gives a table of which all up to n was done and acknowledged, as if it had been: it would last too long to do it all.
func counted(n uint32) *Table {
	s := New()
	s.done, s.acked = n, n
	return s
}
