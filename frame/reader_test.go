package frame

import (
	"bytes"
	"encoding/binary"
	"fmt"
	"hash/crc32"
	"math"
	"slices"
	"strings"
	"testing"

	"lodestar/api"
	"lodestar/message"
	"lodestar/varint"
)

// wantNext wants Next to give x and that e.
func wantNext(t *testing.T, r *Reader, want api.Message, wantErr api.Errno) {
	t.Helper()
	if x, e := r.Next(); e != wantErr || !same(x, want) {
		t.Fatalf("Next = %s, %d; want %s, %d", short(x), e, short(want), wantErr)
	}
}

// wantError wants Next to give e, and nothing beside it.
func wantError(t *testing.T, r *Reader, e api.Errno) {
	t.Helper()
	wantNext(t, r, api.Message{}, e)
}

func wantWaits(t *testing.T, r *Reader, n int) {
	t.Helper()
	if got := r.Waits(); got != n {
		t.Fatalf("Waits = %d; want %d", got, n)
	}
}

// wantMessages wants Next to give the messages of l, one behind the other.
func wantMessages(t *testing.T, r *Reader, l []sample) {
	t.Helper()
	for _, s := range l {
		wantNext(t, r, s.x, api.OK)
	}
}

// wantFailed wants r to tell e for ever, whatever comes.
func wantFailed(t *testing.T, r *Reader, e api.Errno) {
	t.Helper()
	ping := []byte{76, 68, 1, 7, 1, 1, 183, 196, 229, 10}
	for _, b := range [][]byte{nil, {}, {76}, {68}, {1}, {0}, ping, make([]byte, 5000), bytes.Repeat(ping, 50)} {
		wantWaits(t, r, 0)
		wantError(t, r, e)
		r.Feed(b)
		wantWaits(t, r, 0)
		wantError(t, r, e)
		wantError(t, r, e)
	}
}

// fed gives a reader to which those pieces came.
func fed(pieces ...[]byte) *Reader {
	r := New()
	for _, b := range pieces {
		r.Feed(b)
	}
	return r
}

// slow finds frames word by word as the chapter has it, each time from the first byte of what came and isn't gone.
type slow struct {
	came []byte
	told api.Errno // of those that are told for ever: of ErrEnd that of a whole frame's message
}

func (s *slow) Feed(b []byte) {
	if s.told == api.OK {
		s.came = slices.Concat(s.came, b)
	}
}

func (s *slow) Waits() int {
	return len(s.came)
}

func (s *slow) Next() (api.Message, api.Errno) {
	if s.told != api.OK {
		return api.Message{}, s.told
	}
	x, used, e := first(s.came)
	if e == api.OK {
		s.came = s.came[used:]
		return x, api.OK
	}
	if e != api.ErrEnd || used > 0 {
		s.told, s.came = e, nil
	}
	return api.Message{}, e
}

// first gives the message of b's first frame and how many bytes that has, or an error. Of a frame that isn't whole it has none.
func first(b []byte) (api.Message, int, api.Errno) {
	switch {
	case len(b) > 0 && b[0] != 76, len(b) > 1 && b[1] != 68:
		return api.Message{}, 0, api.ErrMagic
	case len(b) > 2 && b[2] != 1:
		return api.Message{}, 0, api.ErrVersion
	case len(b) > 3 && (b[3] == 0 || b[3] > kinds):
		return api.Message{}, 0, api.ErrKind
	case len(b) < 5:
		return api.Message{}, 0, api.ErrEnd
	}
	n, used, e := varint.Get(b[4:])
	if e != api.OK {
		return api.Message{}, 0, e
	}
	if n > api.MaxFrame {
		return api.Message{}, 0, api.ErrSize
	}
	end := 4 + used + int(n)
	if len(b) < end+4 {
		return api.Message{}, 0, api.ErrEnd
	}
	if crc32.ChecksumIEEE(b[:end]) != binary.BigEndian.Uint32(b[end:]) {
		return api.Message{}, end + 4, api.ErrSum
	}
	x, e := message.Get(b[3], b[4+used:end])
	return x, end + 4, e
}

// wantAsSlow wants a reader and a slow one to tell the same, when those pieces come and Next is asked behind each till it is not OK, and Waits behind each Next.
func wantAsSlow(t *testing.T, pieces [][]byte) {
	t.Helper()
	r, s := New(), &slow{}
	for _, b := range pieces {
		r.Feed(b)
		s.Feed(b)
		wantWaits(t, r, s.Waits())
		for e := api.OK; e == api.OK; {
			var x api.Message
			x, e = s.Next()
			wantNext(t, r, x, e)
			wantWaits(t, r, s.Waits())
		}
	}
}

// wrong is what a stream may begin with: when all of its bytes are there, and not earlier, its error is told.
type wrong struct {
	name string
	b    []byte
	e    api.Errno
}

func wrongs() []wrong {
	return slices.Concat(wrongBeginnings(), wrongLengths(), wrongSums(), wrongMessages())
}

func wrongBeginnings() []wrong {
	var l []wrong
	for i := range 256 {
		b := byte(i)
		if b != 76 {
			l = append(l, wrong{"the first byte", []byte{b}, api.ErrMagic})
		}
		if b != 68 {
			l = append(l, wrong{"the second byte", []byte{76, b}, api.ErrMagic})
		}
		if b != 1 {
			l = append(l, wrong{"the version", []byte{76, 68, b}, api.ErrVersion})
		}
		if b == 0 || b > kinds {
			l = append(l, wrong{"the kind", opened(b), api.ErrKind})
		}
	}
	return l
}

// repeat gives n bytes, and last behind them.
func repeat(b byte, n int, last ...byte) []byte {
	return append(bytes.Repeat([]byte{b}, n), last...)
}

func wrongLengths() []wrong {
	var l []wrong
	for kind := byte(1); kind <= kinds; kind++ {
		for _, length := range [][]byte{
			{128, 0}, {129, 0}, {255, 0}, {128, 128, 0}, {255, 255, 0}, {128, 160, 0},
			{129, 160, 0}, {129, 160, 128, 0}, // as numbers 4097: too great, but ahead of that in more bytes than they need
			repeat(128, 9, 0), repeat(255, 9, 0), repeat(255, 9, 2), repeat(128, 9, 2), repeat(255, 9, 127), repeat(128, 9, 128), repeat(255, 9, 255),
		} {
			l = append(l, wrong{"a length that isn't a number", opened(kind, length...), api.ErrVar})
		}
		for _, n := range []uint64{
			api.MaxFrame + 1, api.MaxFrame + 2, api.MaxFrame + 128, 2 * api.MaxFrame, 16383, 16384, 1 << 16, 1<<16 + 1, 1<<31 - 1, 1 << 31, 1<<32 - 1,
			1 << 32, 1<<32 + 1, 1<<32 + api.MaxFrame, 1<<63 - 1, 1 << 63, 1<<63 + 1, math.MaxUint64 - 3, math.MaxUint64,
		} {
			l = append(l, wrong{fmt.Sprint("the length ", n), opened(kind, binary.AppendUvarint(nil, n)...), api.ErrSize})
		}
	}
	return l
}

func wrongSums() []wrong {
	var l []wrong
	for _, s := range samples() {
		// Behind the length, which has one byte in all of them.
		for i := 5; i < len(s.b); i++ {
			b := slices.Clone(s.b)
			b[i] ^= 1 << (i % 8)
			l = append(l, wrong{fmt.Sprintf("the byte %d of the frame of kind %d", i, s.x.Kind), b, api.ErrSum})
		}
		turned := slices.Clone(s.b)
		slices.Reverse(turned[len(turned)-4:])
		l = append(l, wrong{"a sum whose least byte is the first", turned, api.ErrSum})
		inverse := slices.Clone(s.b)
		turn(inverse[len(inverse)-4:])
		l = append(l, wrong{"a sum whose bits aren't turned", inverse, api.ErrSum})
		body := s.b[5 : len(s.b)-4]
		l = append(l,
			wrong{"the sum of the message alone", slices.Concat(s.b[:len(s.b)-4], closed(body)[len(body):]), api.ErrSum},
			wrong{"a sum of 0", slices.Concat(s.b[:len(s.b)-4], make([]byte, 4)), api.ErrSum})
	}
	return l
}

func wrongMessages() []wrong {
	l := []wrong{
		{"a text that is cut off", framed(api.Drop, 1, 3, 97), api.ErrEnd},
		{"a number that is cut off", framed(api.Ping, 128), api.ErrEnd},
		{"a number of two bytes, but it needs one", framed(api.Ping, 128, 0), api.ErrVar},
		{"a number that is too great for any", framed(api.Ping, repeat(255, 9, 2)...), api.ErrVar},
		{"a byte more", framed(api.Ping, 172, 2, 0), api.ErrMore},
		{"as many bytes as a frame may have, all but one of them too many", framed(api.Ping, make([]byte, api.MaxFrame)...), api.ErrMore},
		{"Caps of 2^32", framed(api.Hello, 128, 128, 128, 128, 16), api.ErrForm},
		{"a Metric of 2", framed(api.Create, 1, 0, 1, 2, 0, 0, 0), api.ErrForm},
		{"a text's length that is too great", framed(api.Drop, 1, 129, 32), api.ErrForm},
		{"a list's length that is too great", framed(api.Answer, 1, 0, 0, 0, 129, 1), api.ErrForm},
	}
	for _, s := range samples() {
		body := s.b[5 : len(s.b)-4]
		l = append(l,
			wrong{"a message of no bytes", framed(s.x.Kind), api.ErrEnd},
			wrong{"a message without its last byte", framed(s.x.Kind, body[:len(body)-1]...), api.ErrEnd},
			wrong{"a message with a byte more", framed(s.x.Kind, append(slices.Clone(body), 0)...), api.ErrMore})
	}
	return l
}

// The chapter's examples

func TestTheChaptersExamplesOfNext(t *testing.T) {
	r := New()
	r.Feed([]byte{76})
	wantError(t, r, api.ErrEnd)
	r.Feed([]byte{69})
	wantError(t, r, api.ErrMagic)
	wantFailed(t, r, api.ErrMagic)
	b, _ := Encode(api.Message{Kind: api.Ping, N: 1})
	wantNext(t, fed(b), api.Message{Kind: api.Ping, N: 1}, api.OK)
}

// P7.2: what comes, and what is found

func TestANewReader(t *testing.T) {
	r := New()
	wantWaits(t, r, 0)
	for range 3 {
		wantError(t, r, api.ErrEnd)
		wantWaits(t, r, 0)
	}
	for _, nothing := range [][]byte{nil, {}, stream(samples())[:0]} {
		r.Feed(nothing)
		wantWaits(t, r, 0)
		wantError(t, r, api.ErrEnd)
	}
	r.Feed(samples()[6].b)
	wantNext(t, r, samples()[6].x, api.OK)
}

func TestAFrameThatComesByteByByte(t *testing.T) {
	again := New()
	for _, s := range samples() {
		for _, r := range []*Reader{New(), again} {
			for i, b := range s.b {
				wantError(t, r, api.ErrEnd)
				wantWaits(t, r, i)
				r.Feed([]byte{b})
				wantWaits(t, r, i+1)
			}
			wantNext(t, r, s.x, api.OK)
			wantWaits(t, r, 0)
			wantError(t, r, api.ErrEnd)
			wantWaits(t, r, 0)
		}
	}
}

func TestNextMayBeAskedManyTimes(t *testing.T) {
	s := samples()[13]
	r := New()
	for i, b := range s.b {
		r.Feed([]byte{b})
		for range 5 {
			if i+1 < len(s.b) {
				wantError(t, r, api.ErrEnd)
				wantWaits(t, r, i+1)
			}
		}
	}
	wantNext(t, r, s.x, api.OK)
	for range 5 {
		wantError(t, r, api.ErrEnd)
		wantWaits(t, r, 0)
	}
}

// inPieces cuts b into pieces of that size; behind every third one comes an empty one.
func inPieces(b []byte, size int) [][]byte {
	var l [][]byte
	for piece := range slices.Chunk(b, size) {
		l = append(l, piece)
		if len(l)%4 == 3 {
			l = append(l, nil)
		}
	}
	return l
}

func TestAFrameThatComesInPieces(t *testing.T) {
	for _, s := range samples() {
		for size := 1; size <= len(s.b)+1; size++ {
			r := New()
			came := 0
			for _, piece := range inPieces(s.b, size) {
				if came < len(s.b) {
					wantError(t, r, api.ErrEnd)
				}
				r.Feed(piece)
				came += len(piece)
				wantWaits(t, r, came)
			}
			wantNext(t, r, s.x, api.OK)
			wantWaits(t, r, 0)
			wantError(t, r, api.ErrEnd)
		}
	}
}

func TestSeveralFramesInOnePiece(t *testing.T) {
	l := samples()
	r := fed(stream(l))
	waits := len(stream(l))
	wantWaits(t, r, waits)
	for _, s := range l {
		wantNext(t, r, s.x, api.OK)
		waits -= len(s.b)
		wantWaits(t, r, waits)
	}
	wantWaits(t, r, 0)
	wantError(t, r, api.ErrEnd)
}

func TestAFrameThatEndsInTheMidstOfAPiece(t *testing.T) {
	l := samples()
	ping, write, search := l[6], l[13], l[15]
	b := stream([]sample{ping, write, search})
	for cut := len(ping.b) + 1; cut < len(ping.b)+len(write.b); cut++ {
		r := fed(b[:cut])
		wantWaits(t, r, cut)
		wantNext(t, r, ping.x, api.OK)
		wantWaits(t, r, cut-len(ping.b))
		wantError(t, r, api.ErrEnd)
		wantWaits(t, r, cut-len(ping.b))
		r.Feed(b[cut:])
		wantWaits(t, r, len(write.b)+len(search.b))
		wantNext(t, r, write.x, api.OK)
		wantWaits(t, r, len(search.b))
		wantNext(t, r, search.x, api.OK)
		wantWaits(t, r, 0)
		wantError(t, r, api.ErrEnd)
	}
}

func TestTheLongestFrame(t *testing.T) {
	for _, n := range []int{api.MaxFrame - 1, api.MaxFrame} {
		for _, x := range sized(n) {
			b, e := Encode(x)
			if e != api.OK || len(b) != n+10 {
				t.Fatal(len(b), e)
			}
			r := New()
			for i := range b {
				wantError(t, r, api.ErrEnd)
				r.Feed(b[i : i+1])
				wantWaits(t, r, i+1)
			}
			wantNext(t, r, x, api.OK)
			wantWaits(t, r, 0)
		}
	}
}

func TestAMessageWithoutFields(t *testing.T) {
	for kind := byte(1); kind <= kinds; kind++ {
		x := api.Message{Kind: kind}
		b, _ := Encode(x)
		wantNext(t, fed(b), x, api.OK)
	}
}

// P7.2: errors

func TestAnErrorIsToldAsSoonAsItsBytesAreThere(t *testing.T) {
	for _, w := range wrongs() {
		r := New()
		for i, b := range w.b {
			if x, e := r.Next(); e != api.ErrEnd || !same(x, api.Message{}) || r.Waits() != i {
				t.Fatalf("%s: %d behind %d bytes, of which %d wait", w.name, e, i, r.Waits())
			}
			r.Feed([]byte{b})
			wantWaits(t, r, i+1)
		}
		if x, e := r.Next(); e != w.e || !same(x, api.Message{}) || r.Waits() != 0 {
			t.Fatalf("%s: %s, %d, and %d bytes wait; want %d", w.name, short(x), e, r.Waits(), w.e)
		}
		wantFailed(t, r, w.e)
	}
}

func TestAnErrorIsToldWhateverIsBehind(t *testing.T) {
	behind := [][]byte{nil, {0}, {76}, {1, 128}, {255, 255, 255}, stream(samples()), make([]byte, 10000), bytes.Repeat([]byte{255}, 10000)}
	for _, w := range wrongs() {
		for _, more := range behind {
			for _, r := range []*Reader{fed(slices.Concat(w.b, more)), fed(w.b, more), fed(w.b[:1], w.b[1:], more)} {
				wantWaits(t, r, len(w.b)+len(more))
				if x, e := r.Next(); e != w.e || !same(x, api.Message{}) || r.Waits() != 0 {
					t.Fatalf("%s, with %d bytes behind: %s, %d, and %d bytes wait; want %d", w.name, len(more), short(x), e, r.Waits(), w.e)
				}
				wantError(t, r, w.e)
			}
		}
	}
}

func TestFramesAheadOfAWrongOneAreFound(t *testing.T) {
	l := samples()
	ahead := stream(l)
	for _, w := range wrongs() {
		r := fed(slices.Concat(ahead, w.b, ahead))
		wantMessages(t, r, l)
		wantWaits(t, r, len(w.b)+len(ahead))
		if x, e := r.Next(); e != w.e || !same(x, api.Message{}) || r.Waits() != 0 {
			t.Fatalf("%s, behind frames: %s, %d, and %d bytes wait; want %d", w.name, short(x), e, r.Waits(), w.e)
		}
		wantError(t, r, w.e)
	}
}

func TestAWrongFrameThatIsNotWholeYetHasNoOtherError(t *testing.T) {
	for _, w := range slices.Concat(wrongSums(), wrongMessages()) {
		r := fed(w.b[:len(w.b)-1])
		wantError(t, r, api.ErrEnd)
		wantWaits(t, r, len(w.b)-1)
		r.Feed(w.b[len(w.b)-1:])
		wantError(t, r, w.e)
		wantFailed(t, r, w.e)
	}
}

func TestALengthThatIsCutOff(t *testing.T) {
	for _, length := range [][]byte{nil, {128}, {255}, {129, 160}, repeat(128, 3), repeat(255, 8), repeat(128, 9), repeat(255, 9)} {
		b := opened(api.Drop, length...)
		r := New()
		for i := range b {
			r.Feed(b[i : i+1])
			wantError(t, r, api.ErrEnd)
		}
		for range 20 {
			wantError(t, r, api.ErrEnd)
			wantWaits(t, r, len(b))
			r.Feed(nil)
		}
	}
	// It goes on where the rest of it comes.
	b, _ := Encode(named(128))
	r := fed(b[:5])
	wantError(t, r, api.ErrEnd)
	wantError(t, r, api.ErrEnd)
	r.Feed(b[5:])
	wantNext(t, r, named(128), api.OK)
}

func TestALengthOfMaxFrameIsAllowed(t *testing.T) {
	for kind := byte(1); kind <= kinds; kind++ {
		r := fed(opened(kind, 128, 32))
		wantError(t, r, api.ErrEnd)
		r.Feed(make([]byte, api.MaxFrame+3))
		wantError(t, r, api.ErrEnd)
		wantWaits(t, r, 6+api.MaxFrame+3)
		r.Feed([]byte{0})
		wantError(t, r, api.ErrSum)
	}
}

// TestEachByteOfAFrameChanged does so from the kind to the sum, but for the length: which follows.
func TestEachByteOfAFrameChanged(t *testing.T) {
	for _, s := range samples() {
		for i := range s.b {
			if i < 3 || i == 4 {
				continue
			}
			b := slices.Clone(s.b)
			for v := range 256 {
				b[i] = byte(v)
				want := api.ErrSum
				if i == 3 && (v == 0 || v > kinds) {
					want = api.ErrKind
				}
				if b[i] == s.b[i] {
					continue
				}
				r := fed(b)
				wantError(t, r, want)
				wantError(t, r, want)
				wantWaits(t, r, 0)
			}
		}
	}
}

func TestTheLengthOfAFrameChanged(t *testing.T) {
	behind := make([]byte, 2*api.MaxFrame)
	for _, s := range samples() {
		b := slices.Clone(s.b)
		for v := range 128 {
			b[4] = byte(v)
			if b[4] == s.b[4] {
				continue
			}
			r := fed(b)
			if b[4] > s.b[4] {
				// It isn't whole now: and its sum is wrong where it is.
				wantError(t, r, api.ErrEnd)
				wantWaits(t, r, len(b))
			}
			r.Feed(behind)
			wantError(t, r, api.ErrSum)
			wantFailed(t, r, api.ErrSum)
		}
	}
	b, _ := Encode(named(300))
	for _, c := range []struct {
		length []byte
		want   api.Errno
	}{{[]byte{171, 2}, api.ErrSum}, {[]byte{173, 2}, api.ErrSum}, {[]byte{172, 1}, api.ErrSum}, {[]byte{172, 0}, api.ErrVar}, {[]byte{172, 32}, api.ErrSize}} {
		r := fed(b[:4], c.length, b[6:], behind)
		wantError(t, r, c.want)
		wantFailed(t, r, c.want)
	}
}

// TestOfTwoErrorsTheFirst makes each choice of a frame's parts wrong.
func TestOfTwoErrorsTheFirst(t *testing.T) {
	lengths := []wrong{{"", []byte{131, 0}, api.ErrVar}, {"", repeat(255, 9, 2), api.ErrVar}, {"", []byte{131, 32}, api.ErrSize}, {"", repeat(255, 9, 1), api.ErrSize}}
	bodies := []wrong{{"", []byte{1, 3, 97}, api.ErrEnd}, {"", []byte{128, 0, 97}, api.ErrVar}, {"", []byte{2, 0, 97}, api.ErrMore}, {"", []byte{1, 129, 32}, api.ErrForm}}
	for choice := range 1 << 7 {
		for i := range lengths {
			parts := []struct{ right, wrong wrong }{
				{wrong{b: []byte{76}}, wrong{b: []byte{68}, e: api.ErrMagic}},
				{wrong{b: []byte{68}}, wrong{b: []byte{76}, e: api.ErrMagic}},
				{wrong{b: []byte{1}}, wrong{b: []byte{0}, e: api.ErrVersion}},
				{wrong{b: []byte{api.Drop}}, wrong{b: []byte{25}, e: api.ErrKind}},
				{wrong{b: []byte{3}}, lengths[i]},
				{wrong{b: []byte{2, 1, 97}}, bodies[i]},
			}
			var b []byte
			var want api.Errno
			for at, part := range parts {
				p := part.right
				if choice>>at&1 == 1 {
					p = part.wrong
				}
				b = append(b, p.b...)
				// The sum comes ahead of the message: it is the last of what is wrong.
				if at == 5 && choice>>6 == 1 && want == api.OK {
					want = api.ErrSum
				}
				if want == api.OK {
					want = p.e
				}
			}
			b = closed(b)
			if choice>>6 == 1 {
				b[len(b)-1] ^= 1
			}
			if want == api.OK {
				wantNext(t, fed(b), api.Message{Kind: api.Drop, Req: 2, Name: "a"}, api.OK)
				continue
			}
			r := fed(b)
			if x, e := r.Next(); e != want || !same(x, api.Message{}) {
				t.Fatalf("%d: %s, %d; want %d", b, short(x), e, want)
			}
			wantFailed(t, r, want)
		}
	}
}

func TestErrEndOfAMessageIsToldForEverAndOfAFrameIsNot(t *testing.T) {
	ping := samples()[6]
	short := framed(api.Drop, 1, 3, 97)
	r := fed(ping.b[:5])
	wantError(t, r, api.ErrEnd)
	r.Feed(ping.b[5:])
	wantNext(t, r, ping.x, api.OK)
	r.Feed(short[:len(short)-1])
	wantError(t, r, api.ErrEnd)
	wantWaits(t, r, len(short)-1)
	r.Feed(slices.Concat(short[len(short)-1:], ping.b))
	wantWaits(t, r, len(short)+len(ping.b))
	wantError(t, r, api.ErrEnd)
	wantFailed(t, r, api.ErrEnd)
}

func TestAReaderTakesBytesTillItHasToldItsError(t *testing.T) {
	r := New()
	r.Feed([]byte{0, 0})
	wantWaits(t, r, 2)
	r.Feed(make([]byte, 100))
	wantWaits(t, r, 102)
	r.Feed(stream(samples()))
	wantWaits(t, r, 102+len(stream(samples())))
	wantError(t, r, api.ErrMagic)
	wantFailed(t, r, api.ErrMagic)
}

func TestNoFrameIsLookedForBehindAWrongByte(t *testing.T) {
	ping := samples()[6]
	for _, ahead := range [][]byte{{76}, {0}, {68}, {76, 76}, {76, 68, 76}, {10, 13}} {
		r := fed(ahead, ping.b)
		_, e := r.Next()
		if e != api.ErrMagic && e != api.ErrVersion {
			t.Errorf("%d ahead of a frame: %d", ahead, e)
		}
		wantFailed(t, r, e)
	}
}

// The rules that hold everywhere

func TestBytesThatWereFedMayBeWrittenOver(t *testing.T) {
	l := samples()
	b := stream(l)
	for size := 1; size <= 60; size++ {
		r := New()
		piece := make([]byte, 0, 2*size)
		found := 0
		for at := 0; at < len(b); at += size {
			piece = append(piece[:0], b[at:min(at+size, len(b))]...)
			r.Feed(piece)
			turn(piece)
			for x, e := r.Next(); e == api.OK; x, e = r.Next() {
				if !same(x, l[found].x) {
					t.Fatalf("in pieces of %d: %s, not %s", size, short(x), short(l[found].x))
				}
				found++
			}
		}
		if found != len(l) || r.Waits() != 0 {
			t.Fatalf("in pieces of %d: %d frames, and %d bytes wait", size, found, r.Waits())
		}
	}
}

func TestFeedLeavesWhatItIsHandedAsItWas(t *testing.T) {
	l := samples()
	b := stream(l)
	before := slices.Clone(b)
	r := New()
	for cut := range len(b) {
		// What stands behind is spare room of what is fed.
		r.Feed(b[cut : cut+1])
		r.Feed(nil)
		r.Next()
	}
	r = fed(b[:3])
	r.Feed([]byte{9, 9, 9, 9})
	r.Next()
	fed(b[:20], repeat(7, 30), b[20:40]).Next()
	if !bytes.Equal(b, before) {
		t.Error("what was handed in has changed")
	}
	many := fed(b)
	wantMessages(t, many, l)
	if !bytes.Equal(b, before) {
		t.Error("what was handed in has changed")
	}
}

func TestListsOfAMessageThatWasToldMayBeWrittenOver(t *testing.T) {
	for _, s := range samples() {
		r := fed(s.b, s.b, s.b[:len(s.b)-2])
		for range 2 {
			x, e := r.Next()
			if e != api.OK || !same(x, s.x) {
				t.Fatalf("%s, %d; want %s", short(x), e, short(s.x))
			}
			overwrite(&x)
		}
		wantError(t, r, api.ErrEnd)
		r.Feed(s.b[len(s.b)-2:])
		wantNext(t, r, s.x, api.OK)
	}
}

func TestAMessageThatWasToldStaysAsItIs(t *testing.T) {
	l := samples()
	r := fed(stream(l))
	var told []api.Message
	for range l {
		x, _ := r.Next()
		told = append(told, x)
		r.Feed(bytes.Repeat([]byte{255}, 3))
	}
	r.Next()
	r.Feed(make([]byte, 10000))
	for i, x := range told {
		if !same(x, l[i].x) {
			t.Errorf("%s has become %s", short(l[i].x), short(x))
		}
	}
}

func TestReadersAreApart(t *testing.T) {
	l := samples()
	a, b, c := New(), New(), New()
	for _, s := range l {
		for i := range s.b {
			a.Feed(s.b[i : i+1])
			b.Feed(s.b[i : i+1])
			c.Feed([]byte{0})
			c.Next()
			wantWaits(t, a, i+1)
			if i+1 < len(s.b) {
				wantError(t, a, api.ErrEnd)
			}
		}
		wantNext(t, a, s.x, api.OK)
	}
	wantWaits(t, a, 0)
	wantWaits(t, b, len(stream(l)))
	wantMessages(t, b, l)
	wantFailed(t, c, api.ErrMagic)
	wantError(t, a, api.ErrEnd)
	wantError(t, b, api.ErrEnd)
	wantError(t, New(), api.ErrEnd)
}

func TestToldErrorsKeepNothing(t *testing.T) {
	for _, w := range wrongs() {
		r := fed(w.b, make([]byte, 1000))
		wantError(t, r, w.e)
		r.Feed(make([]byte, 1000))
		if len(r.waiting) > 0 || cap(r.waiting) > 0 {
			t.Fatalf("%s: %d bytes are kept", w.name, cap(r.waiting))
		}
	}
	r := fed(stream(samples()))
	wantMessages(t, r, samples())
	if cap(r.waiting) > 0 {
		t.Errorf("%d bytes are kept", cap(r.waiting))
	}
}

// P7.3

func TestFramesOneBehindTheOtherAreFoundInOrder(t *testing.T) {
	var b []byte
	var l []api.Message
	for n := range 3000 {
		x := samples()[n*7%kinds].x
		switch {
		case n%50 == 0:
			x = named(2 + n)
		case x.Kind == api.Ping:
			x.N = uint32(n)
		}
		one, e := Encode(x)
		if e != api.OK {
			t.Fatal(e)
		}
		b = append(b, one...)
		l = append(l, x)
	}
	for _, size := range []int{1, 2, 5, 10, 11, 64, 4096, 10000, len(b)} {
		r := New()
		found := 0
		for piece := range slices.Chunk(b, size) {
			r.Feed(piece)
			x, e := r.Next()
			for ; e == api.OK; x, e = r.Next() {
				if found == len(l) || !same(x, l[found]) {
					t.Fatalf("in pieces of %d the message %d is %s", size, found, short(x))
				}
				found++
			}
			if e != api.ErrEnd {
				t.Fatal(size, found, e)
			}
		}
		if found != len(l) || r.Waits() != 0 {
			t.Fatalf("in pieces of %d: %d of %d messages, and %d bytes wait", size, found, len(l), r.Waits())
		}
	}
}

func TestManyFramesAtOnce(t *testing.T) {
	const many = 50000
	ping := samples()[6]
	r := fed(bytes.Repeat(ping.b, many))
	for i := range many {
		wantWaits(t, r, (many-i)*len(ping.b))
		wantNext(t, r, ping.x, api.OK)
	}
	wantError(t, r, api.ErrEnd)
	wantWaits(t, r, 0)
}

// told is what a reader tells of a stream in all: the messages, and what is told behind them.
type told struct {
	l []api.Message
	e api.Errno
}

// allOf tells all of r that can be told yet.
func (a *told) allOf(r *Reader) {
	for {
		var x api.Message
		if x, a.e = r.Next(); a.e != api.OK {
			return
		}
		a.l = append(a.l, x)
	}
}

func wantTold(t *testing.T, got, want told) {
	t.Helper()
	if got.e != want.e || !slices.EqualFunc(got.l, want.l, same) {
		t.Fatalf("%d messages, %d: %s; want %d, %d", len(got.l), got.e, short(got.l), len(want.l), want.e)
	}
}

// few gives some of many that are alike.
func few(l []wrong) []wrong {
	var some []wrong
	for i := 0; i < len(l); i += 89 {
		some = append(some, l[i])
	}
	return some
}

// streams gives streams that end in all ways, with what they tell.
func streams() ([][]byte, []told) {
	l := samples()
	var ahead told
	for _, i := range []int{6, 20, 11} {
		ahead.l = append(ahead.l, l[i].x)
	}
	three := stream([]sample{l[6], l[20], l[11]})
	b := [][]byte{nil, three, three[:len(three)-1], slices.Concat(three, opened(7))}
	want := []told{{e: api.ErrEnd}, {ahead.l, api.ErrEnd}, {ahead.l[:2], api.ErrEnd}, {ahead.l, api.ErrEnd}}
	for _, w := range slices.Concat(few(wrongBeginnings()), few(wrongLengths()), few(wrongSums()), wrongMessages()[:10]) {
		if len(w.b) > 100 {
			continue // it would be cut in too many ways
		}
		b = append(b, slices.Concat(three, w.b, three))
		want = append(want, told{ahead.l, w.e})
	}
	return b, want
}

func TestInWhateverPiecesBytesComeTheSameIsTold(t *testing.T) {
	all, want := streams()
	for i, b := range all {
		for first := 0; first <= len(b); first++ {
			for _, second := range []int{first, first + 1, (first + len(b)) / 2, len(b)} {
				pieces := [][]byte{b[:first], b[first:min(second, len(b))], b[min(second, len(b)):]}
				// Next is asked behind those pieces whose bit is there.
				for asked := range 8 {
					var got told
					r := New()
					for at, piece := range pieces {
						r.Feed(piece)
						if asked>>at&1 == 1 {
							got.allOf(r)
						}
					}
					got.allOf(r)
					wantTold(t, got, want[i])
				}
			}
		}
	}
}

func TestNextIsAskedButOnceBetween(t *testing.T) {
	all, want := streams()
	for i, b := range all {
		for _, size := range []int{1, 2, 3, 7, 20, 1000} {
			var got told
			r := New()
			for piece := range slices.Chunk(b, size) {
				if x, e := r.Next(); e == api.OK {
					got.l = append(got.l, x)
				}
				r.Feed(piece)
			}
			got.allOf(r)
			wantTold(t, got, want[i])
		}
	}
}

func TestEveryPieceIsTakenAsAWholeStreamIs(t *testing.T) {
	all, _ := streams()
	for _, b := range all {
		for _, size := range []int{1, 2, 3, 4, 5, 8, 9, 13, 31, 100} {
			wantAsSlow(t, inPieces(b, size))
		}
	}
}

// dice gives numbers of a fixed sequence.
type dice struct {
	seed uint32
}

func (d *dice) below(n int) int {
	d.seed = d.seed*1664525 + 1013904223
	return int(d.seed>>8) % n
}

// stream gives frames, of which now and then one is wrong.
func (d *dice) stream() []byte {
	var b []byte
	l := samples()
	for range d.below(12) {
		one := slices.Clone(l[d.below(kinds)].b)
		switch d.below(20) {
		case 0:
			one[d.below(len(one))] ^= 1 << d.below(8)
		case 1:
			one = one[:d.below(len(one))]
		case 2:
			one = append(one, byte(d.below(256)))
		case 3:
			one, _ = Encode(named(2 + d.below(api.MaxFrame-1)))
		case 4:
			body := []byte(strings.Repeat(string(rune(d.below(128))), d.below(20)))
			one = framed(byte(d.below(kinds+2)), body...)
		}
		b = append(b, one...)
	}
	return b
}

// pieces cuts b anywhere.
func (d *dice) pieces(b []byte) [][]byte {
	most := 1 + d.below(40)
	var l [][]byte
	for len(b) > 0 {
		n := min(d.below(most+1), len(b))
		l = append(l, b[:n])
		b = b[n:]
	}
	return l
}

func TestStreamsFromAFixedSequence(t *testing.T) {
	for seed := range uint32(2000) {
		d := &dice{seed}
		wantAsSlow(t, d.pieces(d.stream()))
	}
}

func TestWhatIsEncodedIsFound(t *testing.T) {
	for _, s := range samples() {
		b, e := Encode(s.x)
		if e != api.OK {
			t.Fatal(e)
		}
		wantNext(t, fed(b), s.x, api.OK)
	}
	for n := 2; n <= api.MaxFrame; n += 17 {
		b, _ := Encode(named(n))
		r := fed(b, b)
		wantNext(t, r, named(n), api.OK)
		wantWaits(t, r, len(b))
		wantNext(t, r, named(n), api.OK)
		wantWaits(t, r, 0)
	}
}
