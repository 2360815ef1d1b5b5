package frame

import (
	"bytes"
	"encoding/binary"
	"fmt"
	"hash/crc32"
	"math"
	"reflect"
	"slices"
	"strings"
	"testing"

	"lodestar/api"
	"lodestar/message"
)

const kinds = 24

// sample is a message and its frame.
type sample struct {
	x api.Message
	b []byte
}

// samples gives a message of each kind, in the kinds' order, with its frame as it was written out elsewhere.
func samples() []sample {
	return []sample{
		{api.Message{Kind: api.Hello, Caps: 3},
			[]byte{76, 68, 1, 1, 1, 3, 93, 71, 248, 148}},
		{api.Message{Kind: api.Welcome, Caps: 3, Token: 300, N: 8},
			[]byte{76, 68, 1, 2, 4, 3, 172, 2, 8, 147, 125, 197, 143}},
		{api.Message{Kind: api.Resume, Token: 1, N: 2},
			[]byte{76, 68, 1, 3, 2, 1, 2, 81, 74, 138, 84}},
		{api.Message{Kind: api.Resumed, N: 128},
			[]byte{76, 68, 1, 4, 2, 128, 1, 119, 12, 74, 93}},
		{api.Message{Kind: api.Refused, Code: 181},
			[]byte{76, 68, 1, 5, 2, 181, 1, 109, 129, 239, 142}},
		{api.Message{Kind: api.Goaway, Code: 190},
			[]byte{76, 68, 1, 6, 2, 190, 1, 156, 192, 153, 171}},
		{api.Message{Kind: api.Ping, N: 1},
			[]byte{76, 68, 1, 7, 1, 1, 183, 196, 229, 10}},
		{api.Message{Kind: api.Pong, N: 300},
			[]byte{76, 68, 1, 8, 2, 172, 2, 157, 226, 207, 241}},
		{api.Message{Kind: api.Credit, N: 8},
			[]byte{76, 68, 1, 9, 1, 8, 196, 134, 112, 164}},
		{api.Message{Kind: api.Acked, N: 5},
			[]byte{76, 68, 1, 10, 1, 5, 184, 113, 178, 64}},
		{api.Message{Kind: api.Create, Req: 1, Conf: api.Conf{Name: "ab", Dim: 2, Metric: api.Minus, Graph: true, Links: 3, Width: 256}},
			[]byte{76, 68, 1, 11, 10, 1, 2, 97, 98, 2, 1, 1, 3, 128, 2, 144, 224, 154, 42}},
		{api.Message{Kind: api.Drop, Req: 2, Name: "a"},
			[]byte{76, 68, 1, 12, 3, 2, 1, 97, 151, 103, 124, 10}},
		{api.Message{Kind: api.List, Req: 3},
			[]byte{76, 68, 1, 13, 1, 3, 84, 93, 1, 240}},
		{api.Message{Kind: api.Write, Req: 5, Name: "c", Changes: []api.Change{{Gone: true, Item: api.Item{Id: 4}}, {Item: api.Item{Id: 6, Vec: []int32{-3, 64}, Tags: []string{"", "t"}}}}},
			[]byte{76, 68, 1, 14, 16, 5, 1, 99, 2, 1, 4, 0, 6, 2, 5, 128, 1, 2, 0, 1, 116, 252, 246, 195, 41}},
		{api.Message{Kind: api.Get, Req: 1, Name: "g", Id: 2},
			[]byte{76, 68, 1, 15, 4, 1, 1, 103, 2, 172, 21, 166, 21}},
		{api.Message{Kind: api.Search, Req: 1, Name: "s", Vec: []int32{1}, K: 2, Width: 3, Filter: api.Filter{All: []string{"a"}, Any: []string{"b", "c"}}},
			[]byte{76, 68, 1, 16, 16, 1, 1, 115, 1, 2, 2, 3, 1, 1, 97, 2, 1, 98, 1, 99, 0, 76, 5, 164, 22}},
		{api.Message{Kind: api.Open, Req: 1, Name: "o", Vec: []int32{-1}, Filter: api.Filter{None: []string{"x"}}},
			[]byte{76, 68, 1, 17, 10, 1, 1, 111, 1, 1, 0, 0, 1, 1, 120, 114, 18, 62, 5}},
		{api.Message{Kind: api.Fetch, Req: 1, Num: 2, Page: 3, K: 4},
			[]byte{76, 68, 1, 18, 4, 1, 2, 3, 4, 249, 233, 2, 159}},
		{api.Message{Kind: api.Close, Req: 300, Num: 7},
			[]byte{76, 68, 1, 19, 3, 172, 2, 7, 41, 205, 155, 157}},
		{api.Message{Kind: api.Stage, Req: 9, Name: "n"},
			[]byte{76, 68, 1, 20, 3, 9, 1, 110, 91, 29, 82, 57}},
		{api.Message{Kind: api.Chunk, Req: 1, Num: 2, Page: 3, Bytes: []byte{76, 68, 0}},
			[]byte{76, 68, 1, 21, 7, 1, 2, 3, 3, 76, 68, 0, 120, 66, 178, 78}},
		{api.Message{Kind: api.Commit, Req: 4, Num: 2},
			[]byte{76, 68, 1, 22, 2, 4, 2, 75, 250, 217, 188}},
		{api.Message{Kind: api.Abort, Req: 5, Num: 2},
			[]byte{76, 68, 1, 23, 2, 5, 2, 234, 93, 143, 152}},
		{api.Message{Kind: api.Answer, Req: 1, Code: 2, Version: 3, Num: 4, Names: []string{"n"}, Items: []api.Item{{Id: 5}}, Hits: []api.Hit{{Dist: -1, Id: 6}, {Dist: 1, Id: 7}}},
			[]byte{76, 68, 1, 24, 16, 1, 2, 3, 4, 1, 1, 110, 1, 5, 0, 0, 2, 1, 6, 2, 7, 26, 177, 72, 89}},
	}
}

// stream gives the frames of l, one behind the other.
func stream(l []sample) []byte {
	var b []byte
	for _, s := range l {
		b = append(b, s.b...)
	}
	return b
}

// closed gives those bytes and their sum: one that is not layer 5's.
func closed(ahead []byte) []byte {
	return binary.BigEndian.AppendUint32(slices.Clone(ahead), crc32.ChecksumIEEE(ahead))
}

// opened gives what a frame of that kind begins with, as far as to its length: that is handed in as bytes.
func opened(kind byte, length ...byte) []byte {
	return append([]byte{76, 68, 1, kind}, length...)
}

// framed gives the frame of those bytes, whether they are a message's or not.
func framed(kind byte, body ...byte) []byte {
	length := binary.AppendUvarint(nil, uint64(len(body)))
	return closed(slices.Concat(opened(kind, length...), body))
}

// named gives a Drop that has n bytes, of 2 at the least.
func named(n int) api.Message {
	x := api.Message{Kind: api.Drop, Req: 1}
	switch {
	case n < 130:
		x.Name = strings.Repeat("a", n-2)
	case n == 130: // a name of one byte less has 129, of one more 131: so Req has a byte more
		x.Req, x.Name = 128, strings.Repeat("a", n-3)
	default:
		x.Name = strings.Repeat("a", n-3)
	}
	return x
}

// alike tells whether v and w are the same; lists that are nil or empty are.
func alike(v, w reflect.Value) bool {
	switch v.Kind() {
	case reflect.Slice:
		same := v.Len() == w.Len()
		for i := 0; same && i < v.Len(); i++ {
			same = alike(v.Index(i), w.Index(i))
		}
		return same
	case reflect.Struct:
		same := true
		for i := 0; same && i < v.NumField(); i++ {
			same = alike(v.Field(i), w.Field(i))
		}
		return same
	}
	return v.Equal(w)
}

func same(x, y api.Message) bool {
	return alike(reflect.ValueOf(x), reflect.ValueOf(y))
}

// short tells x, but not all of it, if that is long.
func short(x any) string {
	s := fmt.Sprintf("%+v", x)
	if len(s) > 300 {
		return s[:300] + ".."
	}
	return s
}

// wantFrame wants x to be encoded as b.
func wantFrame(t *testing.T, x api.Message, b []byte) {
	t.Helper()
	if got, e := Encode(x); e != api.OK || !bytes.Equal(got, b) {
		t.Fatalf("Encode(%s) = %s, %d; want %s", short(x), short(got), e, short(b))
	}
}

// wantRefused wants x to be refused with e, and nothing beside it.
func wantRefused(t *testing.T, x api.Message, e api.Errno) {
	t.Helper()
	if got, gotErr := Encode(x); gotErr != e || len(got) > 0 {
		t.Fatalf("Encode(%s) = %s, %d; want none, %d", short(x), short(got), gotErr, e)
	}
}

// everyList calls f with each list in v, and with its spare room.
func everyList(v reflect.Value, f func(list reflect.Value)) {
	switch v.Kind() {
	case reflect.Slice:
		v = v.Slice(0, v.Cap())
		f(v)
		for i := range v.Len() {
			everyList(v.Index(i), f)
		}
	case reflect.Struct:
		for i := range v.NumField() {
			everyList(v.Field(i), f)
		}
	}
}

// overwrite writes over all lists of x, and over their spare room.
func overwrite(x *api.Message) {
	everyList(reflect.ValueOf(x).Elem(), func(list reflect.Value) {
		for i := range list.Len() {
			switch p := list.Index(i).Addr().Interface().(type) {
			case *byte:
				*p ^= 255
			case *int32:
				*p ^= -1
			case *string:
				*p += "!"
			case *api.Hit:
				*p = api.Hit{Dist: ^p.Dist, Id: ^p.Id}
			case *api.Item:
				p.Id = ^p.Id
			case *api.Change:
				p.Gone = !p.Gone
			}
		}
	})
}

// turn writes over all of b, and over its spare room.
func turn(b []byte) {
	b = b[:cap(b)]
	for i := range b {
		b[i] ^= 255
	}
}

// P7.1

func TestTheChaptersExampleOfEncode(t *testing.T) {
	sum := crc32.ChecksumIEEE([]byte{76, 68, 1, 7, 1, 1})
	wantFrame(t, api.Message{Kind: api.Ping, N: 1}, []byte{76, 68, 1, 7, 1, 1, byte(sum >> 24), byte(sum >> 16), byte(sum >> 8), byte(sum)})
}

func TestAFrameOfEachKind(t *testing.T) {
	l := samples()
	if len(l) != kinds {
		t.Fatal(len(l), "samples")
	}
	for i, s := range l {
		if s.x.Kind != byte(i+1) {
			t.Fatal("sample", i, "is of kind", s.x.Kind)
		}
		wantFrame(t, s.x, s.b)
	}
}

func TestAFrameOfAMessageWithoutFields(t *testing.T) {
	for kind := byte(1); kind <= kinds; kind++ {
		x := api.Message{Kind: kind}
		body, ok := message.Put(x)
		if !ok || len(body) == 0 {
			t.Fatal("kind", kind, body, ok)
		}
		wantFrame(t, x, framed(kind, body...))
	}
}

func TestFramesOfMessagesOfAllLengths(t *testing.T) {
	for n := 2; n <= api.MaxFrame; n++ {
		body, _ := message.Put(named(n))
		if len(body) != n {
			t.Fatal(len(body), "bytes, not", n)
		}
		wantFrame(t, named(n), framed(api.Drop, body...))
	}
}

func TestFramesWhoseLengthsAndSumsWereWrittenOut(t *testing.T) {
	for _, c := range []struct {
		n           int
		length, sum []byte
	}{
		{127, []byte{127}, []byte{205, 121, 46, 108}},
		{128, []byte{128, 1}, []byte{132, 48, 130, 220}},
		{4096, []byte{128, 32}, []byte{124, 134, 137, 39}},
	} {
		body, _ := message.Put(named(c.n))
		wantFrame(t, named(c.n), slices.Concat(opened(api.Drop, c.length...), body, c.sum))
	}
}

// sized gives messages that have n bytes, a little more than 4000.
func sized(n int) []api.Message {
	// Beside what the tags have there are 16 bytes: Req, Code, Version, Num, how many Names, Items and Hits there are, the Item's Id, how many parts and tags it has, and 2 of each tag's length.
	items := []api.Item{{Tags: []string{strings.Repeat("a", 1000), strings.Repeat("b", 1000), strings.Repeat("c", n-2016)}}}
	return []api.Message{
		named(n),
		{Kind: api.Stage, Name: strings.Repeat("\xff", n-3)},
		{Kind: api.Chunk, Req: math.MaxUint32, Num: 1, Page: 1, Bytes: make([]byte, n-9)},
		{Kind: api.Get, Req: 1, Id: 1, Name: strings.Repeat("g", n-4)},
		{Kind: api.Answer, Items: items},
	}
}

// wantSized wants x to have n bytes, and gives them.
func wantSized(t *testing.T, x api.Message, n int) []byte {
	t.Helper()
	body, ok := message.Put(x)
	if !ok || len(body) != n {
		t.Fatalf("%s has %d bytes (%t), not %d", short(x), len(body), ok, n)
	}
	return body
}

func TestMessagesOfMaxFrameBytesAndOfOneMore(t *testing.T) {
	for _, n := range []int{api.MaxFrame - 1, api.MaxFrame} {
		for _, x := range sized(n) {
			wantFrame(t, x, framed(x.Kind, wantSized(t, x, n)...))
		}
	}
	for _, n := range []int{api.MaxFrame + 1, api.MaxFrame + 2} {
		for _, x := range sized(n) {
			wantSized(t, x, n)
			wantRefused(t, x, api.ErrSize)
		}
	}
}

// texts gives n texts, each of so many bytes.
func texts(n, size int) []string {
	return slices.Repeat([]string{strings.Repeat("t", size)}, n)
}

func TestMessagesOfManyMoreThanMaxFrameBytes(t *testing.T) {
	for _, x := range []api.Message{
		{Kind: api.Chunk, Bytes: make([]byte, api.MaxFrame)},
		{Kind: api.Drop, Name: strings.Repeat("a", api.MaxFrame)},
		{Kind: api.Answer, Names: texts(api.MaxItems, 40)},
		{Kind: api.Answer, Names: texts(api.MaxItems, api.MaxFrame)},
		{Kind: api.Answer, Hits: slices.Repeat([]api.Hit{{Dist: math.MinInt64, Id: math.MaxUint32}}, api.MaxItems), Names: texts(17, 127)},
		{Kind: api.Search, Filter: api.Filter{All: texts(api.MaxItems, 16), Any: texts(api.MaxItems, 16)}},
		{Kind: api.Write, Changes: slices.Repeat([]api.Change{{Item: api.Item{Vec: make([]int32, 32)}}}, api.MaxItems)},
	} {
		wantRefused(t, x, api.ErrSize)
	}
}

func TestMessagesThatCannotBeWritten(t *testing.T) {
	long := strings.Repeat("a", api.MaxFrame+1)
	for _, x := range []api.Message{
		{}, {N: 1}, {Kind: 25}, {Kind: 25, Req: 1}, {Kind: 26}, {Kind: 128}, {Kind: 255},
		{Kind: api.Ping, K: 1}, {Kind: api.Ping, Req: 1}, {Kind: api.Ping, Names: []string{""}},
		{Kind: api.Hello, N: 1}, {Kind: api.List, Name: "a"}, {Kind: api.Answer, N: 1}, {Kind: api.Goaway, Req: 1},
		{Kind: api.Create, Conf: api.Conf{Metric: 2}}, {Kind: api.Create, Conf: api.Conf{Name: long}},
		{Kind: api.Write, Changes: []api.Change{{Gone: true, Item: api.Item{Vec: []int32{0}}}}},
		{Kind: api.Write, Changes: make([]api.Change, api.MaxItems+1)},
		{Kind: api.Answer, Names: make([]string, api.MaxItems+1)},
		{Kind: api.Drop, Name: long}, {Kind: api.Chunk, Bytes: []byte(long)},
		// More bytes than MaxFrame, too: what can't be written has none.
		{Kind: api.Chunk, Bytes: make([]byte, api.MaxFrame), N: 1},
		{Kind: api.Answer, Names: texts(api.MaxItems, 100), Caps: 1},
		{Kind: api.Answer, Names: texts(api.MaxItems+1, 100)},
		{Kind: api.Write, Name: strings.Repeat("a", api.MaxFrame), Changes: []api.Change{{Gone: true, Item: api.Item{Tags: []string{""}}}}},
		{Kind: 0, Bytes: make([]byte, api.MaxFrame+1)},
	} {
		wantRefused(t, x, api.ErrForm)
	}
}

func TestListsThatAreNilOrEmptyAreEncodedAlike(t *testing.T) {
	x := api.Message{Kind: api.Answer, Vec: []int32{}, Bytes: make([]byte, 0, 3), Names: []string{}, Items: []api.Item{}, Hits: make([]api.Hit, 0, 1)}
	wantFrame(t, x, framed(api.Answer, 0, 0, 0, 0, 0, 0, 0))
	wantFrame(t, api.Message{Kind: api.Answer}, framed(api.Answer, 0, 0, 0, 0, 0, 0, 0))
}

// roomy gives a message whose lists are empty, but have things in their spare room.
func roomy(kind byte) api.Message {
	return api.Message{
		Kind: kind, Changes: []api.Change{{Gone: true}}[:0], Vec: []int32{1, 2}[:0],
		Filter: api.Filter{All: []string{"a"}[:0], Any: []string{"b"}[:0], None: []string{"c"}[:0]},
		Bytes:  []byte{1, 2, 3}[:0], Names: []string{"n"}[:0], Items: []api.Item{{Id: 1}}[:0], Hits: []api.Hit{{Id: 1}}[:0],
	}
}

// whole gives all things in the lists of x, those in their spare room too, as a text.
func whole(x api.Message) string {
	var l []string
	everyList(reflect.ValueOf(&x).Elem(), func(list reflect.Value) {
		l = append(l, fmt.Sprintf("%+v", list))
	})
	return strings.Join(l, ";")
}

func TestEncodeLeavesWhatItIsHandedAsItWas(t *testing.T) {
	for kind := byte(0); kind <= kinds+1; kind++ {
		x := roomy(kind)
		before := whole(x)
		Encode(x)
		if whole(x) != before || x.Kind != kind {
			t.Errorf("kind %d: %s has become %s", kind, before, whole(x))
		}
	}
	for _, s := range samples() {
		before := fmt.Sprintf("%+v", s.x)
		Encode(s.x)
		if behind := fmt.Sprintf("%+v", s.x); behind != before {
			t.Errorf("%s has become %s", before, behind)
		}
	}
}

func TestAFrameIsTheCallersOwn(t *testing.T) {
	for _, s := range samples() {
		x := s.x
		first, _ := Encode(x)
		second, _ := Encode(x)
		turn(first)
		if !bytes.Equal(second, s.b) {
			t.Fatalf("kind %d: a frame changed as another was written over", x.Kind)
		}
		wantFrame(t, x, s.b)
		if y, e := message.Get(x.Kind, s.b[5:len(s.b)-4]); e != api.OK || !same(x, y) {
			t.Fatalf("kind %d: the message changed as its frame was written over: %+v", x.Kind, x)
		}
		overwrite(&x)
		if !bytes.Equal(second, s.b) {
			t.Fatalf("kind %d: a frame changed as its message was written over", x.Kind)
		}
	}
}

func TestTheSameIsEncodedAgain(t *testing.T) {
	for range 3 {
		for _, s := range samples() {
			wantFrame(t, s.x, s.b)
			wantRefused(t, api.Message{Kind: api.Ping, K: 1}, api.ErrForm)
			wantRefused(t, named(api.MaxFrame+1), api.ErrSize)
		}
	}
}
