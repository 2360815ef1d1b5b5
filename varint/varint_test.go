package varint

import (
	"bytes"
	"math"
	"math/big"
	"slices"
	"testing"

	"lodestar/api"
)

// full gives n bytes that have all bits.
func full(n int) []byte {
	return bytes.Repeat([]byte{255}, n)
}

// bare gives n bytes that have their topmost bit alone.
func bare(n int) []byte {
	return bytes.Repeat([]byte{128}, n)
}

// steps gives the numbers at which one byte more is needed.
func steps() []uint64 {
	return []uint64{
		128, 16384, 2097152, 268435456, 34359738368, 4398046511104,
		562949953421312, 72057594037927936, 9223372036854775808,
	}
}

// numbers gives numbers of all lengths, rising: the ends, those next to each power of 2, and some between.
func numbers() []uint64 {
	l := []uint64{0, math.MaxUint64, math.MaxUint64 - 1, 300, 624485}
	for i := range 64 {
		n := uint64(1) << i
		l = append(l, n-1, n, n+1, n|n>>1, n|0x5555555555555555&(n-1))
	}
	some := uint64(1)
	for i := range 640 {
		some = some*6364136223846793005 + 1442695040888963407
		l = append(l, some>>(i%64))
	}
	slices.Sort(l)
	return slices.Compact(l)
}

// wholes gives whole numbers: the ends, and what is next to each number of numbers on both sides of 0.
func wholes() []int64 {
	l := []int64{math.MinInt64, math.MinInt64 + 1, math.MaxInt64, math.MaxInt64 - 1}
	for _, n := range numbers() {
		l = append(l, int64(n), int64(-n), int64(n/2), int64(-n/2)-1)
	}
	slices.Sort(l)
	return slices.Compact(l)
}

// written gives by dividing what Put gives by shifts.
func written(n *big.Int) []byte {
	var b []byte
	left, part, base := new(big.Int).Set(n), new(big.Int), big.NewInt(128)
	for {
		left.DivMod(left, base, part)
		if left.Sign() == 0 {
			return append(b, byte(part.Uint64()))
		}
		b = append(b, byte(part.Uint64())+128)
	}
}

// writtenNumber gives the bytes of n.
func writtenNumber(n uint64) []byte {
	return written(new(big.Int).SetUint64(n))
}

// writtenWhole gives the bytes of the whole number n, by numbers that have no ends.
func writtenWhole(n int64) []byte {
	twice := new(big.Int).Mul(big.NewInt(n), big.NewInt(2))
	if n >= 0 {
		return written(twice)
	}
	twice.Neg(twice)
	return written(twice.Sub(twice, big.NewInt(1)))
}

// read tells, word for word as the chapter has it, what Get tells.
func read(b []byte) (uint64, int, api.Errno) {
	lacks := func(part byte) bool { return part < 128 }
	last := slices.IndexFunc(b, lacks)
	if len(b) >= 10 && !slices.ContainsFunc(b[:9], lacks) && b[9] > 1 {
		return 0, 0, api.ErrVar
	}
	if last > 0 && b[last] == 0 {
		return 0, 0, api.ErrVar
	}
	if last < 0 {
		return 0, 0, api.ErrEnd
	}
	n := new(big.Int)
	for i := last; i >= 0; i-- {
		n.Mul(n, big.NewInt(128)).Add(n, big.NewInt(int64(b[i]%128)))
	}
	return n.Uint64(), last + 1, api.OK
}

// readWhole tells, as the chapter has it, what GetInt tells.
func readWhole(b []byte) (int64, int, api.Errno) {
	n, used, e := read(b)
	if n%2 == 0 {
		return int64(n / 2), used, e
	}
	return -int64(n/2) - 1, used, e
}

// wantRead asks that Get and GetInt of b tell what the chapter says.
func wantRead(t *testing.T, b []byte) {
	t.Helper()
	n, used, e := Get(b)
	if wantN, wantUsed, want := read(b); n != wantN || used != wantUsed || e != want {
		t.Errorf("Get of %d: %d, %d, %d, not %d, %d, %d", b, n, used, e, wantN, wantUsed, want)
	}
	whole, used, e := GetInt(b)
	if wantN, wantUsed, want := readWhole(b); whole != wantN || used != wantUsed || e != want {
		t.Errorf("GetInt of %d: %d, %d, %d, not %d, %d, %d", b, whole, used, e, wantN, wantUsed, want)
	}
}

// wantError asks that Get and GetInt answer the error, and 0 and 0 beside it.
func wantError(t *testing.T, b []byte, want api.Errno) {
	t.Helper()
	if n, used, e := Get(b); n != 0 || used != 0 || e != want {
		t.Errorf("Get of %d: %d, %d, %d, not 0, 0, %d", b, n, used, e, want)
	}
	if n, used, e := GetInt(b); n != 0 || used != 0 || e != want {
		t.Errorf("GetInt of %d: %d, %d, %d, not 0, 0, %d", b, n, used, e, want)
	}
}

// pair is a number and its bytes.
type pair struct {
	n uint64
	b []byte
}

// pairs gives numbers with their bytes, written out.
func pairs() []pair {
	return []pair{
		{0, []byte{0}},
		{1, []byte{1}},
		{2, []byte{2}},
		{63, []byte{63}},
		{64, []byte{64}},
		{100, []byte{100}},
		{126, []byte{126}},
		{127, []byte{127}},
		{128, []byte{128, 1}},
		{129, []byte{129, 1}},
		{255, []byte{255, 1}},
		{256, []byte{128, 2}},
		{300, []byte{172, 2}},
		{16383, []byte{255, 127}},
		{16384, []byte{128, 128, 1}},
		{16385, []byte{129, 128, 1}},
		{624485, []byte{229, 142, 38}},
		{1<<31 - 1, []byte{255, 255, 255, 255, 7}},
		{1 << 31, []byte{128, 128, 128, 128, 8}},
		{1<<32 - 1, []byte{255, 255, 255, 255, 15}},
		{1 << 32, []byte{128, 128, 128, 128, 16}},
		{1<<62 - 1, []byte{255, 255, 255, 255, 255, 255, 255, 255, 63}},
		{1<<63 - 1, []byte{255, 255, 255, 255, 255, 255, 255, 255, 127}},
		{1 << 63, []byte{128, 128, 128, 128, 128, 128, 128, 128, 128, 1}},
		{1<<63 + 1, []byte{129, 128, 128, 128, 128, 128, 128, 128, 128, 1}},
		{1<<64 - 2, []byte{254, 255, 255, 255, 255, 255, 255, 255, 255, 1}},
		{1<<64 - 1, []byte{255, 255, 255, 255, 255, 255, 255, 255, 255, 1}},
	}
}

// wholePair is a whole number and its bytes.
type wholePair struct {
	n int64
	b []byte
}

// wholePairs gives whole numbers with their bytes, written out.
func wholePairs() []wholePair {
	return []wholePair{
		{0, []byte{0}},
		{-1, []byte{1}},
		{1, []byte{2}},
		{-2, []byte{3}},
		{2, []byte{4}},
		{63, []byte{126}},
		{-64, []byte{127}},
		{64, []byte{128, 1}},
		{-65, []byte{129, 1}},
		{150, []byte{172, 2}},
		{8191, []byte{254, 127}},
		{-8192, []byte{255, 127}},
		{8192, []byte{128, 128, 1}},
		{-8193, []byte{129, 128, 1}},
		{math.MaxInt32, []byte{254, 255, 255, 255, 15}},
		{math.MinInt32, []byte{255, 255, 255, 255, 15}},
		{1<<62 - 1, []byte{254, 255, 255, 255, 255, 255, 255, 255, 127}},
		{-1 << 62, []byte{255, 255, 255, 255, 255, 255, 255, 255, 127}},
		{1 << 62, []byte{128, 128, 128, 128, 128, 128, 128, 128, 128, 1}},
		{-1<<62 - 1, []byte{129, 128, 128, 128, 128, 128, 128, 128, 128, 1}},
		{math.MaxInt64 - 1, []byte{252, 255, 255, 255, 255, 255, 255, 255, 255, 1}},
		{math.MinInt64 + 1, []byte{253, 255, 255, 255, 255, 255, 255, 255, 255, 1}},
		{math.MaxInt64, []byte{254, 255, 255, 255, 255, 255, 255, 255, 255, 1}},
		{math.MinInt64, []byte{255, 255, 255, 255, 255, 255, 255, 255, 255, 1}},
	}
}

// P4.1

func TestTheChaptersExamples(t *testing.T) {
	if b := Put(0); !slices.Equal(b, []byte{0}) {
		t.Error(b)
	}
	if b := Put(300); !slices.Equal(b, []byte{172, 2}) {
		t.Error(b)
	}
	if b := PutInt(-1); !slices.Equal(b, []byte{1}) {
		t.Error(b)
	}
	wantError(t, []byte{128, 0}, api.ErrVar)
	wantError(t, []byte{128}, api.ErrEnd)
	wantError(t, append(full(10), 1), api.ErrVar)
}

func TestPutTells(t *testing.T) {
	for _, c := range pairs() {
		if got := Put(c.n); !slices.Equal(got, c.b) {
			t.Errorf("%d: %d, not %d", c.n, got, c.b)
		}
	}
	for _, n := range numbers() {
		if got, want := Put(n), writtenNumber(n); !slices.Equal(got, want) {
			t.Errorf("%d: %d, not %d", n, got, want)
		}
	}
}

func TestPutTellsOfAllNumbersOfTwoBytes(t *testing.T) {
	for n := range uint64(1<<14 + 300) {
		if got, want := Put(n), writtenNumber(n); !slices.Equal(got, want) {
			t.Errorf("%d: %d, not %d", n, got, want)
		}
	}
}

func TestOneByteMoreIsNeeded(t *testing.T) {
	for i, n := range steps() {
		if b, want := Put(n), append(bare(i+1), 1); !slices.Equal(b, want) {
			t.Errorf("%d: %d, not %d", n, b, want)
		}
		if b, want := Put(n-1), append(full(i), 127); !slices.Equal(b, want) {
			t.Errorf("%d: %d, not %d", n-1, b, want)
		}
	}
}

func TestAllBytesButTheLastHaveTheirTopmostBit(t *testing.T) {
	for _, n := range numbers() {
		b := Put(n)
		for i, part := range b {
			if (part >= 128) != (i < len(b)-1) {
				t.Errorf("%d: %d", n, b)
			}
		}
		if len(b) < 1 || len(b) > 10 || b[len(b)-1] == 0 && n != 0 {
			t.Errorf("%d: %d", n, b)
		}
	}
}

func TestGetTells(t *testing.T) {
	for _, c := range pairs() {
		if n, used, e := Get(c.b); n != c.n || used != len(c.b) || e != api.OK {
			t.Errorf("%d: %d, %d, %d", c.b, n, used, e)
		}
	}
}

func TestOfNoBytes(t *testing.T) {
	wantError(t, nil, api.ErrEnd)
	wantError(t, []byte{}, api.ErrEnd)
	wantError(t, []byte{1, 2, 3}[:0], api.ErrEnd)
}

func TestTheLastByteIsZero(t *testing.T) {
	for n := 1; n <= 9; n++ {
		for _, head := range [][]byte{bare(n), full(n), append(bare(n-1), 129), append(bare(n-1), 255)} {
			wantError(t, append(slices.Clone(head), 0), api.ErrVar)
			wantError(t, append(slices.Clone(head), 0, 1), api.ErrVar)
			wantError(t, append(slices.Clone(head), 0, 128), api.ErrVar)
		}
	}
	for _, c := range pairs() {
		if len(c.b) == 10 {
			continue
		}
		longer := slices.Clone(c.b)
		longer[len(longer)-1] |= 128
		wantError(t, append(longer, 0), api.ErrVar)
	}
}

func TestCutOffAtTheEnd(t *testing.T) {
	for _, n := range numbers() {
		for _, b := range [][]byte{Put(n), PutInt(int64(n)), PutInt(-int64(n))} {
			for i := range b {
				wantError(t, b[:i], api.ErrEnd)
				wantError(t, b[:i:i], api.ErrEnd)
			}
		}
	}
	for n := range 10 {
		wantError(t, bare(n), api.ErrEnd)
		wantError(t, full(n), api.ErrEnd)
	}
}

func TestTheTenthByte(t *testing.T) {
	for _, head := range [][]byte{bare(9), full(9), {129, 200, 255, 128, 128, 254, 190, 128, 131}} {
		for part := range 256 {
			b := append(slices.Clone(head), byte(part))
			if part != 1 {
				wantError(t, b, api.ErrVar)
			}
			for _, behind := range [][]byte{nil, {0}, {1}, {127}, {128}, {255}, full(20), bare(20)} {
				wantRead(t, slices.Concat(b, behind))
			}
		}
	}
	for _, c := range []pair{
		{1 << 63, append(bare(9), 1)},
		{1<<64 - 1, append(full(9), 1)},
	} {
		if n, used, e := Get(c.b); n != c.n || used != 10 || e != api.OK {
			t.Errorf("%d: %d, %d, %d", c.b, n, used, e)
		}
	}
}

func TestTheTenthByteIsAboveOneButTheNumberEndsAheadOfIt(t *testing.T) {
	for i := range 9 {
		for _, head := range [][]byte{bare(9), full(9)} {
			for _, tenth := range []byte{0, 1, 2, 127, 128, 255} {
				for part := range byte(128) {
					b := append(slices.Clone(head), tenth)
					b[i] = part
					wantRead(t, b)
					if _, used, e := Get(b); (part > 0 || i == 0) && (used != i+1 || e != api.OK) {
						t.Errorf("%d: %d bytes, %d", b, used, e)
					}
				}
			}
		}
	}
}

func TestMoreThanTenBytes(t *testing.T) {
	for n := 10; n < 40; n++ {
		wantError(t, bare(n), api.ErrVar)
		wantError(t, full(n), api.ErrVar)
		wantError(t, append(bare(n), 0), api.ErrVar)
		wantError(t, append(bare(n), 1), api.ErrVar)
		wantError(t, append(full(n), 1), api.ErrVar)
	}
	wantError(t, full(1<<20), api.ErrVar)
}

func TestOfAllOneAndTwoBytes(t *testing.T) {
	for a := range 256 {
		wantRead(t, []byte{byte(a)})
		for b := range 256 {
			wantRead(t, []byte{byte(a), byte(b)})
		}
	}
}

func TestOfBytesAtTheirEnds(t *testing.T) {
	ends := []byte{0, 1, 2, 64, 127, 128, 129, 192, 255}
	for length := 3; length <= 4; length++ {
		b := make([]byte, length)
		var from func(i int)
		from = func(i int) {
			if i == length {
				wantRead(t, b)
				return
			}
			for _, part := range ends {
				b[i] = part
				from(i + 1)
			}
		}
		from(0)
	}
}

func TestOfLongBytesAtTheirEnds(t *testing.T) {
	some := uint32(7)
	for range 20000 {
		some = some*1664525 + 1013904223
		b := make([]byte, 8+some>>30)
		for i := range b {
			some = some*1664525 + 1013904223
			b[i] = []byte{128, 128, 255, 255, 128, 255, 129, 0, 1, 2, 128, 255, 190, 128, 255, 127}[some>>28]
		}
		wantRead(t, b)
	}
}

// P4.2

func TestPutIntTells(t *testing.T) {
	for _, c := range wholePairs() {
		if got := PutInt(c.n); !slices.Equal(got, c.b) {
			t.Errorf("%d: %d, not %d", c.n, got, c.b)
		}
	}
	for _, n := range wholes() {
		if got, want := PutInt(n), writtenWhole(n); !slices.Equal(got, want) {
			t.Errorf("%d: %d, not %d", n, got, want)
		}
	}
	for n := int64(-9000); n < 9000; n++ {
		if got, want := PutInt(n), writtenWhole(n); !slices.Equal(got, want) {
			t.Errorf("%d: %d, not %d", n, got, want)
		}
	}
}

func TestGetIntTells(t *testing.T) {
	for _, c := range wholePairs() {
		if n, used, e := GetInt(c.b); n != c.n || used != len(c.b) || e != api.OK {
			t.Errorf("%d: %d, %d, %d", c.b, n, used, e)
		}
	}
}

func TestAWholeNumberIsWrittenAsItsNumber(t *testing.T) {
	for _, c := range []struct {
		whole int64
		n     uint64
	}{
		{0, 0}, {-1, 1}, {1, 2}, {-2, 3}, {2, 4}, {150, 300}, {-150, 299},
		{math.MaxInt64, math.MaxUint64 - 1}, {math.MinInt64, math.MaxUint64},
		{math.MaxInt64 - 1, math.MaxUint64 - 3}, {math.MinInt64 + 1, math.MaxUint64 - 2},
	} {
		if got, want := PutInt(c.whole), Put(c.n); !slices.Equal(got, want) {
			t.Errorf("%d: %d, not %d", c.whole, got, want)
		}
		if got, used, e := GetInt(Put(c.n)); got != c.whole || used != len(Put(c.n)) || e != api.OK {
			t.Errorf("%d: %d, %d, %d", c.n, got, used, e)
		}
	}
}

// P4.3

// wantBack asks that get of n's bytes b is n, whatever stands behind them.
func wantBack[N uint64 | int64](t *testing.T, n N, b []byte, get func([]byte) (N, int, api.Errno)) {
	t.Helper()
	for _, behind := range [][]byte{
		nil, {0}, {1}, {127}, {128}, {255}, {128, 0}, {128, 1}, full(9), full(10), bare(20), {0, 0, 0},
	} {
		if got, used, e := get(slices.Concat(b, behind)); got != n || used != len(b) || e != api.OK {
			t.Errorf("%d, behind it %d: %d, %d, %d", n, behind, got, used, e)
		}
	}
}

func TestGetOfPutIsTheNumber(t *testing.T) {
	for _, n := range numbers() {
		wantBack(t, n, Put(n), Get)
	}
}

func TestGetIntOfPutIntIsTheWholeNumber(t *testing.T) {
	for _, n := range wholes() {
		wantBack(t, n, PutInt(n), GetInt)
	}
}

func TestNumbersOneBehindTheOther(t *testing.T) {
	var b []byte
	for _, n := range numbers() {
		b = slices.Concat(b, Put(n), PutInt(int64(n)), PutInt(-int64(n)))
	}
	for _, want := range numbers() {
		n, used, e := Get(b)
		if n != want || e != api.OK {
			t.Fatalf("%d: %d, %d", want, n, e)
		}
		b = b[used:]
		for _, want := range []int64{int64(want), -int64(want)} {
			n, used, e := GetInt(b)
			if n != want || e != api.OK {
				t.Fatalf("%d: %d, %d", want, n, e)
			}
			b = b[used:]
		}
	}
	wantError(t, b, api.ErrEnd)
}

// wantTaken asks that Put and PutInt of what is read give just the bytes that were taken.
func wantTaken(t *testing.T, b []byte) {
	t.Helper()
	if n, used, e := Get(b); e == api.OK && !slices.Equal(Put(n), b[:used]) {
		t.Errorf("%d: %d of them taken, but put is %d", b, used, Put(n))
	}
	if n, used, e := GetInt(b); e == api.OK && !slices.Equal(PutInt(n), b[:used]) {
		t.Errorf("%d: %d of them taken, but put is %d", b, used, PutInt(n))
	}
}

func TestPutOfWhatGetTookAreJustTheseBytes(t *testing.T) {
	for a := range 256 {
		for b := range 256 {
			wantTaken(t, []byte{byte(a), byte(b)})
			for n := 1; n <= 8; n++ {
				wantTaken(t, append(bare(n), byte(a), byte(b)))
				wantTaken(t, append(full(n), byte(a), byte(b)))
			}
		}
	}
}

func TestAGreaterNumberHasNoFewerBytes(t *testing.T) {
	before := 0
	for _, n := range numbers() {
		length := len(Put(n))
		if length < before {
			t.Errorf("%d has %d bytes, a lesser one has %d", n, length, before)
		}
		before = length
	}
	before = 0
	for n := range uint64(40000) {
		length := len(Put(n))
		if length < before {
			t.Errorf("%d has %d bytes, a lesser one has %d", n, length, before)
		}
		before = length
	}
}

func TestAWholeNumberFurtherFromZeroHasNoFewerBytes(t *testing.T) {
	for _, sign := range []int64{1, -1} {
		before := 0
		for _, n := range numbers() {
			if n > math.MaxInt64 {
				break
			}
			length := len(PutInt(sign * int64(n)))
			if length < before {
				t.Errorf("%d has %d bytes, one nearer to 0 has %d", sign*int64(n), length, before)
			}
			before = length
		}
	}
}

// The rules that hold everywhere

func TestGetAndGetIntLeaveWhatTheyAreHandedAsItWas(t *testing.T) {
	for _, handed := range [][]byte{
		{}, {0}, {127}, {128}, {128, 0}, {172, 2}, {172, 2, 9, 9}, full(9), append(full(9), 1), append(full(9), 2), full(12), bare(12),
	} {
		whole := slices.Concat(handed, []byte{7, 0, 255})
		before := slices.Clone(whole)
		Get(whole[:len(handed)])
		GetInt(whole[:len(handed)])
		if !slices.Equal(whole, before) {
			t.Errorf("%d has become %d", before, whole)
		}
	}
}

// overwrite writes over bytes, and over their spare room.
func overwrite(b []byte) {
	for i := range b[:cap(b)] {
		b[:cap(b)][i] ^= 255
	}
}

// wantOwn asks that an answer of put shares no memory with others.
func wantOwn(t *testing.T, put func() []byte, others ...[]byte) {
	t.Helper()
	first, second := put(), put()
	others = append(others, second)
	want := bytes.Join(others, nil)
	overwrite(first)
	if got := bytes.Join(others, nil); !slices.Equal(got, want) {
		t.Errorf("%d have become %d", want, got)
	}
	if third := put(); !slices.Equal(third, second) {
		t.Errorf("%d is now put as %d", second, third)
	}
}

func TestWhatPutAndPutIntTellIsTheCallersOwn(t *testing.T) {
	for _, n := range numbers() {
		number := func() []byte { return Put(n) }
		whole := func() []byte { return PutInt(int64(n)) }
		wantOwn(t, number, whole(), Put(n+1))
		wantOwn(t, whole, number(), PutInt(int64(n)+1))
	}
}

func TestTheSameIsToldAgain(t *testing.T) {
	for _, b := range [][]byte{nil, {0}, {172, 2}, {128}, {128, 0}, append(full(9), 1), full(10)} {
		n, used, e := Get(b)
		whole, usedInt, eInt := GetInt(b)
		Get(full(10))
		GetInt([]byte{5})
		if n2, used2, e2 := Get(b); n2 != n || used2 != used || e2 != e {
			t.Errorf("Get of %d: %d, %d, %d, then %d, %d, %d", b, n, used, e, n2, used2, e2)
		}
		if n2, used2, e2 := GetInt(b); n2 != whole || used2 != usedInt || e2 != eInt {
			t.Errorf("GetInt of %d: %d, %d, %d, then %d, %d, %d", b, whole, usedInt, eInt, n2, used2, e2)
		}
	}
}
