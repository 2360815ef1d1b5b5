package fixvec

import (
	"math"
	"slices"
	"testing"

	"lodestar/api"
)

// filled gives n parts, each of them part.
func filled(n int, part int32) []int32 {
	return slices.Repeat([]int32{part}, n)
}

// ending gives n parts: zeros, and last at the end.
func ending(n int, last int32) []int32 {
	v := make([]int32, n)
	v[n-1] = last
	return v
}

// vectors gives vectors of dim parts that may be: the ends, and some from a fixed sequence.
func vectors(dim int) [][]int32 {
	l := [][]int32{
		filled(dim, 0), filled(dim, 1), filled(dim, -1),
		filled(dim, api.MaxPart), filled(dim, -api.MaxPart),
		ending(dim, 1), ending(dim, api.MaxPart), ending(dim, -api.MaxPart),
	}
	state := uint32(dim)
	for range 12 {
		v := make([]int32, dim)
		for i := range v {
			state = state*1664525 + 1013904223
			v[i] = int32(state>>8)%(2*api.MaxPart+1) - api.MaxPart
		}
		l = append(l, v)
	}
	return l
}

var metricsThatAre = []api.Metric{api.Square, api.Minus}

// mustDist fails the test where there is no distance.
func mustDist(t *testing.T, m api.Metric, a, b []int32) int64 {
	t.Helper()
	n, ok := Dist(m, a, b)
	if !ok {
		t.Fatalf("Dist(%d, %v, %v) is false", m, a, b)
	}
	return n
}

// P1.1

func TestCheckTells(t *testing.T) {
	for _, c := range []struct {
		name string
		v    []int32
		dim  int
		want api.Errno
	}{
		{"one part", []int32{7}, 1, api.OK},
		{"one part, zero", []int32{0}, 1, api.OK},
		{"three parts", []int32{1, -2, 3}, 3, api.OK},
		{"MaxDim parts", filled(16, 5), 16, api.OK},
		{"one less than MaxDim", filled(15, 5), 15, api.OK},
		{"MaxPart", []int32{1 << 20}, 1, api.OK},
		{"-MaxPart", []int32{-1 << 20}, 1, api.OK},
		{"both ends", []int32{-1 << 20, 1 << 20}, 2, api.OK},
		{"MaxDim parts of MaxPart", filled(16, 1<<20), 16, api.OK},

		{"nil", nil, 0, api.ErrDim},
		{"empty", []int32{}, 0, api.ErrDim},
		{"nil for one part", nil, 1, api.ErrDim},
		{"parts for none", []int32{1}, 0, api.ErrDim},
		{"one more than MaxDim", filled(17, 0), 17, api.ErrDim},
		{"one more than MaxDim, dim MaxDim", filled(17, 0), 16, api.ErrDim},
		{"MaxDim parts, dim one more", filled(16, 0), 17, api.ErrDim},
		{"too few", []int32{1}, 2, api.ErrDim},
		{"too many", []int32{1, 2, 3}, 2, api.ErrDim},
		{"dim -1", []int32{1}, -1, api.ErrDim},
		{"dim -1, no parts", nil, -1, api.ErrDim},
		{"the least dim", []int32{1}, math.MinInt, api.ErrDim},
		{"the greatest dim", []int32{1}, math.MaxInt, api.ErrDim},
		{"dim that is 1 in its low 32 bits", []int32{1}, 1<<32 + 1, api.ErrDim},

		{"one beyond MaxPart", []int32{1<<20 + 1}, 1, api.ErrPart},
		{"one beyond -MaxPart", []int32{-1<<20 - 1}, 1, api.ErrPart},
		{"the greatest int32", []int32{math.MaxInt32}, 1, api.ErrPart},
		{"the least int32", []int32{math.MinInt32}, 1, api.ErrPart},
		{"the first part", []int32{1<<20 + 1, 0, 0}, 3, api.ErrPart},
		{"a part between", []int32{0, -1<<20 - 1, 0}, 3, api.ErrPart},
		{"the last of MaxDim", ending(16, 1<<20+1), 16, api.ErrPart},
		{"the last of MaxDim, below", ending(16, -1<<20-1), 16, api.ErrPart},
	} {
		if got := Check(c.v, c.dim); got != c.want {
			t.Errorf("%s: Check(%v, %d) is %d, not %d", c.name, c.v, c.dim, got, c.want)
		}
	}
}

func TestCheckNamesDimAheadOfPart(t *testing.T) {
	for _, c := range []struct {
		v   []int32
		dim int
	}{
		{[]int32{1<<20 + 1}, 2}, {[]int32{1<<20 + 1, 0}, 1}, {[]int32{math.MinInt32}, 0},
		{filled(17, math.MaxInt32), 17}, {[]int32{math.MaxInt32}, -1},
	} {
		if got := Check(c.v, c.dim); got != api.ErrDim {
			t.Errorf("Check(%v, %d) is %d, not ErrDim", c.v, c.dim, got)
		}
	}
}

func TestCheckOfEachDim(t *testing.T) {
	for dim := -2; dim <= 20; dim++ {
		for n := range 21 {
			want := api.ErrDim
			if dim >= 1 && dim <= 16 && n == dim {
				want = api.OK
			}
			if got := Check(make([]int32, n), dim); got != want {
				t.Errorf("%d parts, dim %d: %d, not %d", n, dim, got, want)
			}
		}
	}
}

// P1.2

func TestDistTells(t *testing.T) {
	for _, c := range []struct {
		name          string
		a, b          []int32
		square, minus int64
	}{
		{"the chapter's example", []int32{1, 2}, []int32{4, 6}, 25, -16},
		{"one part", []int32{3}, []int32{5}, 4, -15},
		{"one part below zero", []int32{-3}, []int32{5}, 64, 15},
		{"zeros", []int32{0, 0}, []int32{0, 0}, 0, 0},
		{"alike", []int32{2, -3}, []int32{2, -3}, 0, -13},
		{"across", []int32{1, 0}, []int32{0, 1}, 2, 0},
		{"each part with its own", []int32{1, 2, 3}, []int32{10, 200, 3000}, 81 + 198*198 + 2997*2997, -9410},
		{"an end with an end", []int32{1 << 20}, []int32{-1 << 20}, 1 << 42, 1 << 40},
		{"an end with itself", []int32{1 << 20}, []int32{1 << 20}, 0, -1 << 40},
		{"the lower end with itself", []int32{-1 << 20}, []int32{-1 << 20}, 0, -1 << 40},
		{"MaxDim parts, end with end", filled(16, 1<<20), filled(16, -1<<20), 1 << 46, 1 << 44},
		{"MaxDim parts, end with itself", filled(16, 1<<20), filled(16, 1<<20), 0, -1 << 44},
		{"the last of MaxDim parts counts", ending(16, 2), ending(16, 5), 9, -10},
	} {
		if n, ok := Dist(api.Square, c.a, c.b); !ok || n != c.square {
			t.Errorf("%s: by Square %d, %t, not %d", c.name, n, ok, c.square)
		}
		if n, ok := Dist(api.Minus, c.a, c.b); !ok || n != c.minus {
			t.Errorf("%s: by Minus %d, %t, not %d", c.name, n, ok, c.minus)
		}
	}
}

func TestDistOfEachDim(t *testing.T) {
	for dim := 1; dim <= 16; dim++ {
		if n := mustDist(t, api.Square, filled(dim, 2), filled(dim, 5)); n != int64(9*dim) {
			t.Errorf("%d parts: by Square %d", dim, n)
		}
		if n := mustDist(t, api.Minus, filled(dim, 2), filled(dim, 5)); n != int64(-10*dim) {
			t.Errorf("%d parts: by Minus %d", dim, n)
		}
	}
}

// wantNoDist fails the test unless there is none, whichever comes first.
func wantNoDist(t *testing.T, m api.Metric, a, b []int32) {
	t.Helper()
	if n, ok := Dist(m, a, b); ok || n != 0 {
		t.Errorf("Dist(%d, %v, %v) is %d, %t", m, a, b, n, ok)
	}
	if n, ok := Dist(m, b, a); ok || n != 0 {
		t.Errorf("Dist(%d, %v, %v) is %d, %t", m, b, a, n, ok)
	}
}

func TestDistRefuses(t *testing.T) {
	for _, c := range []struct{ a, b []int32 }{
		{nil, nil}, {[]int32{}, nil}, {[]int32{}, []int32{}}, {nil, []int32{1}},
		{[]int32{1}, []int32{1, 2}}, {filled(15, 3), filled(16, 3)},
		{filled(16, 3), filled(17, 3)}, {filled(17, 3), filled(17, 3)},
		{[]int32{1<<20 + 1}, []int32{1}}, {[]int32{-1<<20 - 1}, []int32{1}},
		{[]int32{math.MaxInt32}, []int32{math.MinInt32}}, {[]int32{1<<20 + 1}, []int32{1<<20 + 1}},
		{ending(16, 1<<20+1), filled(16, 0)}, {ending(16, -1<<20-1), filled(16, 0)},
		{[]int32{1<<20 + 1}, []int32{1, 2}},
	} {
		for _, m := range metricsThatAre {
			wantNoDist(t, m, c.a, c.b)
		}
	}
}

func TestDistRefusesOtherMetrics(t *testing.T) {
	for m := 2; m <= 255; m++ {
		wantNoDist(t, api.Metric(m), []int32{1, 2}, []int32{4, 6})
		wantNoDist(t, api.Metric(m), nil, []int32{1 << 21})
	}
}

// P1.3

func TestLessTells(t *testing.T) {
	for _, c := range []struct {
		name string
		a, b api.Hit
		want bool
	}{
		{"nearer", api.Hit{Dist: 1, Id: 5}, api.Hit{Dist: 2, Id: 5}, true},
		{"farther", api.Hit{Dist: 2, Id: 5}, api.Hit{Dist: 1, Id: 5}, false},
		{"nearer with a greater Id", api.Hit{Dist: 1, Id: 9}, api.Hit{Dist: 2, Id: 3}, true},
		{"farther with a lesser Id", api.Hit{Dist: 2, Id: 3}, api.Hit{Dist: 1, Id: 9}, false},
		{"as near, lesser Id", api.Hit{Dist: 1, Id: 1}, api.Hit{Dist: 1, Id: 2}, true},
		{"as near, greater Id", api.Hit{Dist: 1, Id: 2}, api.Hit{Dist: 1, Id: 1}, false},
		{"alike", api.Hit{Dist: 4, Id: 7}, api.Hit{Dist: 4, Id: 7}, false},
		{"alike, zero", api.Hit{}, api.Hit{}, false},
		{"below zero is nearer", api.Hit{Dist: -2, Id: 9}, api.Hit{Dist: -1}, true},
		{"below zero, the other way", api.Hit{Dist: -1}, api.Hit{Dist: -2, Id: 9}, false},
		{"about zero", api.Hit{Dist: -1, Id: 9}, api.Hit{Dist: 1}, true},
		{"the ends of Dist", api.Hit{Dist: math.MinInt64, Id: math.MaxUint32}, api.Hit{Dist: math.MaxInt64}, true},
		{"the ends of Dist, the other way", api.Hit{Dist: math.MaxInt64}, api.Hit{Dist: math.MinInt64, Id: math.MaxUint32}, false},
		{"the ends of Id", api.Hit{Id: 0}, api.Hit{Id: math.MaxUint32}, true},
		{"the ends of Id, the other way", api.Hit{Id: math.MaxUint32}, api.Hit{Id: 0}, false},
		{"unlike in the high bits of Dist alone", api.Hit{Dist: 1 << 40, Id: 1}, api.Hit{Dist: 1 << 41, Id: 0}, true},
	} {
		if got := Less(c.a, c.b); got != c.want {
			t.Errorf("%s: Less(%v, %v) is %t", c.name, c.a, c.b, got)
		}
	}
}

// P1.4

func TestDistancesAreTheSameTheOtherWayRound(t *testing.T) {
	for _, dim := range []int{1, 2, 7, 16} {
		for _, a := range vectors(dim) {
			for _, b := range vectors(dim) {
				for _, m := range metricsThatAre {
					if mustDist(t, m, a, b) != mustDist(t, m, b, a) {
						t.Errorf("metric %d tells %v and %v apart by their order", m, a, b)
					}
				}
			}
		}
	}
}

func TestSquareIsZeroJustToItself(t *testing.T) {
	for _, dim := range []int{1, 2, 7, 16} {
		for _, a := range vectors(dim) {
			for _, b := range vectors(dim) {
				n := mustDist(t, api.Square, a, b)
				if n < 0 || (n == 0) != slices.Equal(a, b) {
					t.Errorf("from %v to %v: %d", a, b, n)
				}
			}
		}
	}
}

func TestSquareIsMadeOfMinus(t *testing.T) {
	for _, dim := range []int{1, 2, 7, 16} {
		for _, a := range vectors(dim) {
			for _, b := range vectors(dim) {
				want := -mustDist(t, api.Minus, a, a) - mustDist(t, api.Minus, b, b) + 2*mustDist(t, api.Minus, a, b)
				if n := mustDist(t, api.Square, a, b); n != want {
					t.Errorf("from %v to %v: %d, not %d", a, b, n, want)
				}
			}
		}
	}
}

func TestJustOneOfTwoUnlikeHitsIsLess(t *testing.T) {
	var l []api.Hit
	for _, d := range []int64{math.MinInt64, -1 << 44, -1, 0, 1, 1 << 46, math.MaxInt64} {
		for _, id := range []uint32{0, 1, 1 << 31, math.MaxUint32} {
			l = append(l, api.Hit{Dist: d, Id: id})
		}
	}
	for i, a := range l {
		for j, b := range l {
			if got := Less(a, b); got != (i < j) {
				t.Errorf("Less(%v, %v) is %t", a, b, got)
			}
		}
	}
}

// The rules that hold everywhere

func TestWhatIsHandedInIsNotChanged(t *testing.T) {
	room := []int32{1, 2, 3, 4, 5, 6}
	kept := slices.Clone(room)
	a, b := room[0:2], room[3:5]
	Check(a, 2)
	Check(a, 3)
	for m := range 4 {
		Dist(api.Metric(m), a, b)
		Dist(api.Metric(m), a, room[3:6])
	}
	if !slices.Equal(room, kept) {
		t.Errorf("%v has become %v", kept, room)
	}
}

func TestTheSameIsAnsweredAgain(t *testing.T) {
	a, b := []int32{1, 2}, []int32{4, 6}
	for range 3 {
		if n := mustDist(t, api.Square, a, b); n != 25 {
			t.Error(n)
		}
		if n := mustDist(t, api.Minus, a, b); n != -16 {
			t.Error(n)
		}
		wantNoDist(t, 2, a, b)
	}
}
