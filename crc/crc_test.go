package crc

import (
	"bytes"
	"hash/crc32"
	"math"
	"slices"
	"testing"
)

// running takes the bits of b one by one, the lowest of a byte first, into what a sum is so far, and turns nothing.
func running(sum uint32, b []byte) uint32 {
	for _, part := range b {
		for i := range 8 {
			bit := uint32(part>>i) & 1
			if (sum^bit)&1 == 1 {
				sum = sum>>1 ^ 0xEDB88320
			} else {
				sum >>= 1
			}
		}
	}
	return sum
}

// bitByBit gives by bits, without a table, what Of gives.
func bitByBit(b []byte) uint32 {
	return math.MaxUint32 - running(math.MaxUint32, b)
}

// moreBitByBit gives by bits, without a table, what More gives.
func moreBitByBit(c uint32, b []byte) uint32 {
	return math.MaxUint32 - running(math.MaxUint32-c, b)
}

// next gives the number behind n in a fixed sequence.
func next(n uint32) uint32 {
	return n*1664525 + 1013904223
}

// some gives n bytes from a fixed sequence.
func some(n int, seed uint32) []byte {
	b := make([]byte, n)
	for i := range b {
		seed = next(seed)
		b[i] = byte(seed >> 24)
	}
	return b
}

// counted gives n bytes, of which each is greater by step than the one ahead of it.
func counted(n int, first, step byte) []byte {
	b := make([]byte, n)
	for i := range b {
		b[i] = first + step*byte(i)
	}
	return b
}

// zeros gives n bytes without bits.
func zeros(n int) []byte {
	return make([]byte, n)
}

// full gives n bytes that have all bits.
func full(n int) []byte {
	return bytes.Repeat([]byte{255}, n)
}

// texts gives bytes of many kinds and lengths.
func texts() [][]byte {
	l := [][]byte{nil, {}, []byte("123456789"), []byte("message digest")}
	for _, n := range []int{1, 2, 3, 4, 5, 7, 8, 9, 15, 16, 17, 31, 32, 33, 63, 64, 65, 100, 255, 256, 257} {
		l = append(l, zeros(n), full(n), counted(n, 0, 1), counted(n, 255, 255), some(n, uint32(n)))
	}
	return l
}

// sums gives sums to go on from: the ends, each of one bit, each without one, and others.
func sums() []uint32 {
	l := []uint32{0, math.MaxUint32, 0xEDB88320, 0xCBF43926, 0xFF, 0xFFFFFF00, 0x80000001}
	for i := range 32 {
		l = append(l, 1<<i, math.MaxUint32-1<<i)
	}
	n := uint32(5)
	for range 100 {
		n = next(n)
		l = append(l, n)
	}
	return l
}

// short gives at most the first bytes of b, for a failing test to show.
func short(b []byte) []byte {
	return b[:min(len(b), 40)]
}

// wantSum asks that Of, and More of no bytes' sum, are the sum of b.
func wantSum(t *testing.T, s *Summer, b []byte, want uint32) {
	t.Helper()
	if got := s.Of(b); got != want {
		t.Errorf("Of %d bytes %x: %08x, not %08x", len(b), short(b), got, want)
	}
	if got := s.More(0, b); got != want {
		t.Errorf("More of 0 and %d bytes %x: %08x, not %08x", len(b), short(b), got, want)
	}
}

// wantMore asks that More is the sum of what c is the sum of, and b behind it.
func wantMore(t *testing.T, s *Summer, c uint32, b []byte) {
	t.Helper()
	if got, want := s.More(c, b), moreBitByBit(c, b); got != want {
		t.Errorf("More of %08x and %d bytes %x: %08x, not %08x", c, len(b), short(b), got, want)
	}
}

// P5.1

func TestTheChaptersExamples(t *testing.T) {
	if n := New().Of([]byte("123456789")); n != 0xCBF43926 {
		t.Errorf("%08x", n)
	}
	if n := New().Of(nil); n != 0 {
		t.Errorf("%08x", n)
	}
	if n := New().Of([]byte{}); n != 0 {
		t.Errorf("%08x", n)
	}
}

func TestOfTells(t *testing.T) {
	s := New()
	for _, c := range []struct {
		b    []byte
		want uint32
	}{
		{nil, 0},
		{[]byte{}, 0},
		{[]byte("ab")[:0], 0},
		{[]byte{0}, 0xD202EF8D},
		{[]byte{255}, 0xFF000000},
		{[]byte("a"), 0xE8B7BE43},
		{[]byte("abc"), 0x352441C2},
		{[]byte("message digest"), 0x20159D7F},
		{[]byte("abcdefghijklmnopqrstuvwxyz"), 0x4C2750BD},
		{[]byte("The quick brown fox jumps over the lazy dog"), 0x414FA339},
		{zeros(4), 0x2144DF1C},
		{full(4), 0xFFFFFFFF},
		{zeros(32), 0x190A55AD},
		{full(32), 0xFF6CAB0B},
		{counted(32, 0, 1), 0x91267E8A},
		{counted(32, 31, 255), 0x9AB0EF72},
	} {
		wantSum(t, s, c.b, c.want)
	}
}

func TestOfEachOneByte(t *testing.T) {
	s := New()
	for part := range 256 {
		b := []byte{byte(part)}
		wantSum(t, s, b, bitByBit(b))
	}
}

func TestOfEachTwoBytes(t *testing.T) {
	s := New()
	for first := range 256 {
		for second := range 256 {
			b := []byte{byte(first), byte(second)}
			wantSum(t, s, b, bitByBit(b))
		}
	}
}

func TestOfManyBytes(t *testing.T) {
	s := New()
	for _, b := range texts() {
		wantSum(t, s, b, bitByBit(b))
		wantSum(t, s, b, crc32.ChecksumIEEE(b))
	}
}

func TestOfBytesWithoutBitsAndWithAll(t *testing.T) {
	s := New()
	for n := range 300 {
		wantSum(t, s, zeros(n), bitByBit(zeros(n)))
		wantSum(t, s, full(n), bitByBit(full(n)))
	}
}

func TestOfLongBytes(t *testing.T) {
	s := New()
	for _, n := range []int{4096, 1<<16 - 1, 1 << 16, 1<<20 + 7} {
		for _, b := range [][]byte{zeros(n), full(n), counted(n, 3, 7), some(n, 11)} {
			wantSum(t, s, b, bitByBit(b))
			wantSum(t, s, b, crc32.ChecksumIEEE(b))
		}
	}
}

func TestMoreTells(t *testing.T) {
	s := New()
	for _, c := range []struct {
		sum  uint32
		b    []byte
		want uint32
	}{
		{0, nil, 0},
		{0, []byte("123456789"), 0xCBF43926},
		{0xE8B7BE43, []byte("bc"), 0x352441C2},
		{0xD202EF8D, zeros(3), 0x2144DF1C},
		{0xFFFFFFFF, nil, 0xFFFFFFFF},
		{0xFFFFFFFF, []byte{0}, 0xFFFFFFFF},
		{0xFFFFFFFF, zeros(100), 0xFFFFFFFF},
		{0xFFFFFFFF, []byte{128}, 0xFFFFFFFF - 0xEDB88320},
		{0, full(4), 0xFFFFFFFF},
	} {
		if got := s.More(c.sum, c.b); got != c.want {
			t.Errorf("More of %08x and %x: %08x, not %08x", c.sum, c.b, got, c.want)
		}
	}
}

func TestMoreOfAnySum(t *testing.T) {
	s := New()
	for _, c := range sums() {
		for _, b := range texts() {
			wantMore(t, s, c, b)
		}
		for part := range 256 {
			wantMore(t, s, c, []byte{byte(part)})
		}
	}
}

func TestMoreWithNothingBehind(t *testing.T) {
	s := New()
	for _, c := range sums() {
		for _, nothing := range [][]byte{nil, {}, full(3)[:0]} {
			if got := s.More(c, nothing); got != c {
				t.Errorf("More of %08x and nothing: %08x", c, got)
			}
		}
	}
}

// P5.2

func TestANewSummersTableIsNotMade(t *testing.T) {
	s := New()
	for range 3 {
		if s.Made() {
			t.Error("made, though asked for Made alone")
		}
	}
}

func TestTheTableIsMadeOnceItIsAskedFor(t *testing.T) {
	for name, ask := range map[string]func(*Summer){
		"Of nil":                func(s *Summer) { s.Of(nil) },
		"Of no bytes":           func(s *Summer) { s.Of([]byte{}) },
		"Of bytes":              func(s *Summer) { s.Of([]byte("123456789")) },
		"Of a byte":             func(s *Summer) { s.Of([]byte{0}) },
		"More of 0 and nil":     func(s *Summer) { s.More(0, nil) },
		"More of 0, no bytes":   func(s *Summer) { s.More(0, []byte{}) },
		"More of 1 and nil":     func(s *Summer) { s.More(1, nil) },
		"More of all and nil":   func(s *Summer) { s.More(math.MaxUint32, nil) },
		"More of 0 and bytes":   func(s *Summer) { s.More(0, []byte("abc")) },
		"More of all and bytes": func(s *Summer) { s.More(math.MaxUint32, []byte("abc")) },
	} {
		s := New()
		if s.Made() {
			t.Errorf("%s: made ahead of it", name)
		}
		ask(s)
		if !s.Made() || !s.Made() {
			t.Errorf("%s: not made behind it", name)
		}
		s.Of(nil)
		s.More(3, []byte{3})
		if !s.Made() {
			t.Errorf("%s: made no more", name)
		}
	}
}

func TestEachSummerHasItsOwnTable(t *testing.T) {
	before := New()
	asked := New()
	asked.Of([]byte("abc"))
	behind := New()
	if before.Made() || !asked.Made() || behind.Made() {
		t.Errorf("made: %t, %t, %t", before.Made(), asked.Made(), behind.Made())
	}
	behind.More(7, nil)
	if before.Made() || !asked.Made() || !behind.Made() {
		t.Errorf("made: %t, %t, %t", before.Made(), asked.Made(), behind.Made())
	}
	wantSum(t, before, []byte("abc"), 0x352441C2)
	if !before.Made() {
		t.Error("not made behind its sums")
	}
}

func TestTheTable(t *testing.T) {
	s := New()
	for i, word := range s.table {
		if word != 0 {
			t.Fatalf("word %d of a new summer is %08x", i, word)
		}
	}
	s.Of(nil)
	for i, word := range s.table {
		if want := running(uint32(i), []byte{0}); word != want {
			t.Errorf("word %d is %08x, not %08x", i, word, want)
		}
	}
	if s.table[0] != 0 || s.table[1] != 0x77073096 || s.table[128] != 0xEDB88320 || s.table[255] != 0x2D02EF8D {
		t.Errorf("words %08x, %08x, %08x, %08x", s.table[0], s.table[1], s.table[128], s.table[255])
	}
}

func TestTheTableIsMadeButOnce(t *testing.T) {
	s := New()
	s.Of([]byte("abc"))
	s.table[200]++
	spoilt := s.table
	s.Of(nil)
	s.Of([]byte("abc"))
	s.More(1, nil)
	s.More(0, []byte("abc"))
	if s.table != spoilt {
		t.Error("the table was made anew")
	}
}

// P5.3

func TestMoreOfOfIsOfOfBoth(t *testing.T) {
	s := New()
	for _, b := range append(texts(), some(1000, 3)) {
		whole := s.Of(b)
		for cut := range len(b) + 1 {
			if got := s.More(s.Of(b[:cut]), b[cut:]); got != whole {
				t.Errorf("%x cut at %d: %08x, not %08x", short(b), cut, got, whole)
			}
		}
	}
}

func TestMoreOfMoreInThreePieces(t *testing.T) {
	s := New()
	b := some(60, 9)
	whole := bitByBit(b)
	for first := range len(b) + 1 {
		for second := first; second <= len(b); second++ {
			if got := s.More(s.More(s.Of(b[:first]), b[first:second]), b[second:]); got != whole {
				t.Errorf("cut at %d and %d: %08x, not %08x", first, second, got, whole)
			}
		}
	}
}

func TestMoreByteByByte(t *testing.T) {
	s := New()
	b := some(5000, 21)
	got := s.Of(nil)
	for i := range b {
		got = s.More(got, b[i:i+1])
		if want := s.Of(b[:i+1]); got != want {
			t.Fatalf("of the first %d bytes: %08x, not %08x", i+1, got, want)
		}
	}
}

func TestMoreOfWhatAnotherSummerTold(t *testing.T) {
	for _, b := range texts() {
		half := len(b) / 2
		if got, want := New().More(New().Of(b[:half]), b[half:]), bitByBit(b); got != want {
			t.Errorf("%x: %08x, not %08x", short(b), got, want)
		}
	}
}

// turned gives b with those of its bits turned that stand in burst, the lowest of them at the bit at of b. A sum takes the lowest bit of a byte first: so they are counted here.
func turned(b []byte, at int, burst uint32) []byte {
	other := slices.Clone(b)
	for i := range 32 {
		if burst>>i&1 == 1 {
			other[(at+i)/8] ^= 1 << ((at + i) % 8)
		}
	}
	return other
}

// bases gives bytes of one length, in which bits are turned.
func bases(n int) [][]byte {
	return [][]byte{zeros(n), full(n), counted(n, 0, 1), some(n, 77)}
}

func TestBytesThatDifferInOneBit(t *testing.T) {
	s := New()
	for n := 1; n <= 70; n++ {
		for _, b := range bases(n) {
			was := s.Of(b)
			for at := range 8 * n {
				if s.Of(turned(b, at, 1)) == was {
					t.Errorf("%d bytes %x: as before where bit %d is turned", n, b, at)
				}
			}
		}
	}
}

func TestBytesThatDifferInOneByte(t *testing.T) {
	s := New()
	for _, n := range []int{1, 2, 3, 4, 5, 9, 33} {
		for _, b := range bases(n) {
			for i := range b {
				seen := map[uint32]byte{}
				other := slices.Clone(b)
				for part := range 256 {
					other[i] = byte(part)
					sum := s.Of(other)
					if same, ok := seen[sum]; ok {
						t.Errorf("%d bytes %x: %08x with %d at %d as with %d", n, b, sum, part, i, same)
					}
					seen[sum] = byte(part)
				}
			}
		}
	}
}

// bursts gives what may differ within 32 bits, in all lengths: the ends of each alone, all of it, and others.
func bursts() []uint32 {
	l := []uint32{0xEDB88320, 0xDB710641, 0x04C11DB7, 0x82608EDB}
	n := uint32(13)
	for last := range 32 {
		ends := uint32(1)<<last | 1
		l = append(l, ends, ends|(1<<last-1), 1<<last)
		for range 3 {
			n = next(n)
			l = append(l, ends|n&(1<<last-1))
		}
	}
	return l
}

func TestBytesThatDifferWithin32Bits(t *testing.T) {
	s := New()
	for _, n := range []int{4, 5, 6, 8, 13, 40} {
		for _, b := range bases(n) {
			was := s.Of(b)
			for at := range 8*n - 31 {
				for _, burst := range bursts() {
					if s.Of(turned(b, at, burst)) == was {
						t.Errorf("%d bytes %x: as before where %08x is turned at %d", n, b, burst, at)
					}
				}
			}
		}
	}
}

func TestLongBytesThatDifferWithin32Bits(t *testing.T) {
	s := New()
	b := some(4096, 31)
	was := s.Of(b)
	for _, first := range []int{0, 1, 2047, 4091, 4092} {
		for shift := range 8 {
			at := min(8*first+shift, 8*len(b)-32)
			for _, burst := range bursts() {
				if s.Of(turned(b, at, burst)) == was {
					t.Errorf("as before where %08x is turned at %d", burst, at)
				}
			}
		}
	}
}

// apart tells whether of l's numbers no choice, but the one of none, comes to 0 by exclusive or.
func apart(l []uint32) bool {
	left := slices.Clone(l)
	for i, n := range left {
		if n == 0 {
			return false
		}
		lowest := n & -n
		for j := i + 1; j < len(left); j++ {
			if left[j]&lowest != 0 {
				left[j] ^= n
			}
		}
	}
	return true
}

// TestNoChoiceOf32BitsIsLost leans on TestWhatIsTurnedTurnsTheSum: what each bit turns in the sum tells what any choice of them turns.
func TestNoChoiceOf32BitsIsLost(t *testing.T) {
	s := New()
	for _, n := range []int{4, 5, 6, 16, 64} {
		b := some(n, 41)
		was := s.Of(b)
		for at := range 8*n - 31 {
			turns := make([]uint32, 32)
			for i := range turns {
				turns[i] = s.Of(turned(b, at, 1<<i)) ^ was
			}
			if !apart(turns) {
				t.Errorf("%d bytes: some of the 32 bits at %d can be turned together unseen", n, at)
			}
		}
	}
}

func TestWhatIsTurnedTurnsTheSum(t *testing.T) {
	s := New()
	for _, n := range []int{4, 5, 16, 64} {
		none := s.Of(zeros(n))
		for _, b := range bases(n) {
			for at := range 8*n - 31 {
				for _, burst := range bursts() {
					turn := s.Of(turned(zeros(n), at, burst)) ^ none
					if got := s.Of(turned(b, at, burst)); got != s.Of(b)^turn {
						t.Errorf("%x with %08x turned at %d: %08x", b, burst, at, got)
					}
				}
			}
		}
	}
}

// The rules that hold everywhere

func TestASummerThatHasSummedMuchSumsAsANewOne(t *testing.T) {
	old := New()
	for i, b := range texts() {
		old.More(uint32(i), b)
		old.More(old.Of(b), b)
	}
	for _, b := range texts() {
		want := New().Of(b)
		wantSum(t, old, b, want)
		wantSum(t, old, b, want)
	}
	for _, c := range sums() {
		if got, want := old.More(c, []byte("abc")), New().More(c, []byte("abc")); got != want {
			t.Errorf("More of %08x: %08x, not %08x", c, got, want)
		}
	}
}

func TestWhatSummersAreAskedByTurnsIsApart(t *testing.T) {
	a, b := New(), New()
	got := a.More(a.Of([]byte("1234")), nil)
	b.More(b.Of(full(50)), zeros(50))
	a.Of(full(7))
	if got = a.More(got, []byte("56789")); got != 0xCBF43926 {
		t.Errorf("%08x", got)
	}
	wantSum(t, b, []byte("123456789"), 0xCBF43926)
}

func TestOfAndMoreLeaveWhatTheyAreHandedAsItWas(t *testing.T) {
	s := New()
	for _, handed := range texts() {
		room := slices.Concat(handed, []byte{7, 0, 255, 128})
		before := slices.Clone(room)
		s.Of(room[:len(handed)])
		s.More(0, room[:len(handed)])
		s.More(math.MaxUint32, room[:len(handed)])
		if !slices.Equal(room, before) {
			t.Errorf("%x has become %x", before, room)
		}
	}
}

func TestWhatStandsBehindIsNotSummed(t *testing.T) {
	s := New()
	room := []byte("123456789abc")
	wantSum(t, s, room[:9], 0xCBF43926)
	wantSum(t, s, room[:0], 0)
}

func TestOfAndMoreKeepNothingOfWhatTheyAreHanded(t *testing.T) {
	s := New()
	handed := []byte("123456789")
	for _, text := range []string{"abcdefghi", "123456789", "         "} {
		s.Of(handed)
		copy(handed, text)
		if got, want := s.Of(handed), bitByBit([]byte(text)); got != want {
			t.Errorf("Of %q: %08x, not %08x", text, got, want)
		}
		s.More(5, handed)
		clear(handed)
		wantMore(t, s, 5, handed)
		wantMore(t, s, 5, []byte(text))
	}
}
