package links

import (
	"math"
	"slices"
	"testing"

	"lodestar/api"
)

// wantNear fails the test unless Near gives just want.
func wantNear(t *testing.T, g *Graph, q []int32, l []int, want ...api.Hit) {
	t.Helper()
	if got := g.Near(q, l); !slices.Equal(got, want) {
		t.Errorf("Near(%v, %v) is %v, not %v", q, l, got, want)
	}
}

// wantChoose fails the test unless Choose gives just want.
func wantChoose(t *testing.T, g *Graph, q []int32, l []int, most int, want ...int) {
	t.Helper()
	if got := g.Choose(q, l, most); !slices.Equal(got, want) {
		t.Errorf("Choose(%v, %v, %d) is %v, not %v", q, l, most, got, want)
	}
}

// upTo gives the places below n.
func upTo(n int) []int {
	l := make([]int, n)
	for i := range l {
		l[i] = i
	}
	return l
}

// P11.2: Near

func TestTheNearestFirst(t *testing.T) {
	g := line(0, 10, 11, 30)
	wantNear(t, g, []int32{9}, []int{0, 1, 2, 3}, hit(1, 1), hit(4, 2), hit(81, 0), hit(441, 3))
	wantNear(t, g, []int32{9}, []int{3, 0, 2}, hit(4, 2), hit(81, 0), hit(441, 3))
	wantNear(t, g, []int32{40}, []int{0, 1, 2, 3}, hit(100, 3), hit(841, 2), hit(900, 1), hit(1600, 0))
	wantNear(t, g, []int32{0}, []int{0}, hit(0, 0))
	wantNear(t, g, []int32{0}, nil)
	wantNear(t, g, []int32{0}, []int{})
}

func TestNearToldByPlacesNotByIds(t *testing.T) {
	g := New(api.Square)
	for i, id := range []uint32{9, 9, 2, math.MaxUint32, 0} {
		g.Add(api.Item{Id: id, Vec: []int32{int32(i % 2)}}, 0, 1)
	}
	wantNear(t, g, []int32{0}, []int{4, 3, 2, 1, 0}, hit(0, 0), hit(0, 2), hit(0, 4), hit(1, 1), hit(1, 3))
}

func TestOnlyPlacesThatAreThereAreNear(t *testing.T) {
	g := line(5, 6, 7)
	for _, i := range noPlaces(3) {
		wantNear(t, g, []int32{5}, []int{i})
		wantNear(t, g, []int32{5}, []int{i, 2, i, 0, i, i}, hit(0, 0), hit(4, 2))
	}
	wantNear(t, g, []int32{5}, append(noPlaces(3), 2), hit(4, 2))
}

func TestEachPlaceIsNearOnce(t *testing.T) {
	g := line(5, 6, 5)
	wantNear(t, g, []int32{5}, []int{1, 1}, hit(1, 1))
	wantNear(t, g, []int32{5}, []int{2, 0, 1, 2, 0, 0, 2}, hit(0, 0), hit(0, 2), hit(1, 1))
}

func TestNodesOfAnyLevelAreNear(t *testing.T) {
	g := New(api.Square)
	for level := range 5 {
		g.Add(at(int32(-level)), level, 1)
	}
	wantNear(t, g, []int32{0}, []int{4, 3, 2, 1, 0}, hit(0, 0), hit(1, 1), hit(4, 2), hit(9, 3), hit(16, 4))
}

func TestEachMetric(t *testing.T) {
	vecs := []api.Item{at(0, 0), at(4, 1), at(-1, 2), at(1, 1)}
	for _, c := range []struct {
		m    api.Metric
		want []api.Hit
	}{
		{api.Square, []api.Hit{hit(1, 3), hit(4, 2), hit(5, 0), hit(10, 1)}},
		{api.Minus, []api.Hit{hit(-6, 1), hit(-3, 2), hit(-3, 3), hit(0, 0)}},
		{2, []api.Hit{hit(0, 0), hit(0, 1), hit(0, 2), hit(0, 3)}},
		{128, []api.Hit{hit(0, 0), hit(0, 1), hit(0, 2), hit(0, 3)}},
		{255, []api.Hit{hit(0, 0), hit(0, 1), hit(0, 2), hit(0, 3)}},
	} {
		g := New(c.m)
		for _, x := range vecs {
			g.Add(x, 0, 1)
		}
		wantNear(t, g, []int32{1, 2}, []int{3, 2, 1, 0}, c.want...)
	}
}

func TestWhatCantBeToldIsZeroFar(t *testing.T) {
	beyond := int32(api.MaxPart + 1)
	for _, m := range []api.Metric{api.Square, api.Minus} {
		g := New(m)
		g.Add(at(3), 0, 1)
		g.Add(at(), 0, 1)
		g.Add(at(3, 3), 0, 1)
		g.Add(at(beyond), 0, 1)
		g.Add(at(-beyond), 0, 1)
		g.Add(at(math.MinInt32), 0, 1)
		g.Add(at(make([]int32, 17)...), 0, 1)
		g.Add(at(-4), 0, 1)
		zeros := []api.Hit{hit(0, 1), hit(0, 2), hit(0, 3), hit(0, 4), hit(0, 5), hit(0, 6)}
		if m == api.Square {
			wantNear(t, g, []int32{2}, upTo(8), append(zeros, hit(1, 0), hit(36, 7))...)
		} else {
			wantNear(t, g, []int32{2}, upTo(8), append(append([]api.Hit{hit(-6, 0)}, zeros...), hit(8, 7))...)
		}
		for _, q := range [][]int32{nil, {}, {beyond}, {-beyond}, {math.MinInt32}, {math.MaxInt32}, {1, 2, 3}, {0, beyond}, make([]int32, 17)} {
			wantNear(t, g, q, []int{7, 0, 2, 1, 3}, hit(0, 0), hit(0, 1), hit(0, 2), hit(0, 3), hit(0, 7))
			wantChoose(t, g, q, []int{7, 0, 2}, 2, 0, 2)
		}
	}
}

func TestTheEndsOfDistances(t *testing.T) {
	g := New(api.Square)
	g.Add(at(slices.Repeat([]int32{api.MaxPart}, 16)...), 0, 1)
	g.Add(at(slices.Repeat([]int32{-api.MaxPart}, 16)...), 0, 1)
	wantNear(t, g, slices.Repeat([]int32{-api.MaxPart}, 16), []int{0, 1}, hit(0, 1), hit(1<<46, 0))
	g = New(api.Minus)
	g.Add(at(slices.Repeat([]int32{api.MaxPart}, 16)...), 0, 1)
	g.Add(at(slices.Repeat([]int32{-api.MaxPart}, 16)...), 0, 1)
	wantNear(t, g, slices.Repeat([]int32{-api.MaxPart}, 16), []int{0, 1}, hit(-1<<44, 1), hit(1<<44, 0))
}

func TestMoreThanMaxWidthAreNear(t *testing.T) {
	g := New(api.Square)
	var want []api.Hit
	for i := range 1000 {
		g.Add(at(int32(1000-i)), 0, 1)
		want = append(want, hit(int64(i+1)*int64(i+1), uint32(999-i)))
	}
	wantNear(t, g, []int32{0}, upTo(1000), want...)
	wantNear(t, g, []int32{0}, append(upTo(1000), upTo(1000)...), want...)
}

// P11.2: Choose

func TestMosts(t *testing.T) {
	g := line(0, 10, 11, 30)
	// From 9: 10, then 11, nearer to 10, then 0, then 30, nearer to 11, which wasn't taken, and to 10.
	for most, want := range [][]int{{}, {1}, {1, 0}, {1, 0, 2}, {1, 0, 2, 3}, {1, 0, 2, 3}, {1, 0, 2, 3}} {
		wantChoose(t, g, []int32{9}, []int{3, 2, 1, 0}, most, want...)
	}
	for _, most := range []int{math.MinInt, -1 << 32, -4, -1} {
		wantChoose(t, g, []int32{9}, []int{3, 2, 1, 0}, most)
	}
	for _, most := range []int{256, 257, 1 << 32, 1<<32 + 1, math.MaxInt} {
		wantChoose(t, g, []int32{9}, []int{3, 2, 1, 0}, most, 1, 0, 2, 3)
	}
}

func TestChoosingAmongOddPlaces(t *testing.T) {
	g := line(0, 10, 11)
	for _, most := range []int{0, 1, 2} {
		wantChoose(t, g, []int32{9}, nil, most)
		wantChoose(t, g, []int32{9}, []int{}, most)
		wantChoose(t, g, []int32{9}, noPlaces(3), most)
	}
	wantChoose(t, g, []int32{9}, []int{2, 2, 2}, 2, 2)
	wantChoose(t, g, []int32{9}, []int{0, 2, 1, 0, 1, 2, 1}, 3, 1, 0, 2)
	wantChoose(t, g, []int32{9}, []int{0, 2, 1, 0, 1, 2, 1}, 7, 1, 0, 2)
	wantChoose(t, g, []int32{9}, append(noPlaces(3), 0, 2), 9, 2, 0)
}

func TestAsFarAsQIsOneLessAndOneMore(t *testing.T) {
	// From (0, 0) the first is taken; the third, far off on the other side, would be too.
	for _, c := range []struct {
		taken, next []int32
		want        []int
	}{
		{[]int32{1, 0}, []int32{0, 3}, []int{0, 1}}, // 10 from the one that was taken, 9 from q
		{[]int32{2, 0}, []int32{1, 3}, []int{0, 1}}, // 10 and 10
		{[]int32{1, 0}, []int32{1, 3}, []int{0, 2}}, // 9 and 10: passed over
		{[]int32{2, 0}, []int32{0, 3}, []int{0, 1}}, // 13 and 9
		{[]int32{2, 0}, []int32{2, 3}, []int{0, 2}}, // 9 and 13: passed over
		{[]int32{2, 0}, []int32{2, 0}, []int{0, 2}}, // 0 and 4: passed over
	} {
		g := New(api.Square)
		g.Add(at(c.taken...), 0, 1)
		g.Add(at(c.next...), 0, 1)
		g.Add(at(-90, 0), 0, 1)
		wantChoose(t, g, []int32{0, 0}, upTo(3), 2, c.want...)
	}
}

func TestAsFarAsQIsOneLessAndOneMoreByMinus(t *testing.T) {
	for _, c := range []struct {
		dist int32 // from q to the second; from the first, which is taken, to it: -10
		want []int
	}{{-11, []int{0, 1}}, {-10, []int{0, 1}}, {-9, []int{0, 2}}} {
		g := New(api.Minus)
		g.Add(at(5, 0, 100), 0, 1)
		g.Add(at(2, 1, 0), 0, 1)
		g.Add(at(-200, -50, 0), 0, 1)
		wantChoose(t, g, []int32{0, -c.dist, 1}, upTo(3), 2, c.want...)
	}
}

func TestOnlyWhatWasTakenCounts(t *testing.T) {
	// The second, 13 from q, is nearer to the first, 9: passed over. The third, 34 from q, is nearer to the second, 29, but not to the first, 50.
	g := New(api.Square)
	g.Add(at(2, 0), 0, 1)
	g.Add(at(2, 3), 0, 1)
	g.Add(at(-3, 5), 0, 1)
	g.Add(at(-60, 0), 0, 1)
	wantChoose(t, g, []int32{0, 0}, upTo(4), 3, 0, 2, 1)
	wantChoose(t, g, []int32{0, 0}, upTo(3), 2, 0, 2)
	wantChoose(t, g, []int32{0, 0}, upTo(3), 3, 0, 2, 1)
	wantChoose(t, g, []int32{0, 0}, []int{1, 2, 3}, 2, 1, 3)
	wantChoose(t, g, []int32{0, 0}, []int{1, 2, 3}, 3, 1, 3, 2)
}

func TestAnyThatWasTakenCounts(t *testing.T) {
	// From 0: 3 and -3 are taken; then those behind them are passed over, the nearest first.
	g := line(3, -3, 7, -6, 5, -8)
	wantChoose(t, g, []int32{0}, upTo(6), 2, 0, 1)
	wantChoose(t, g, []int32{0}, upTo(6), 3, 0, 1, 4)
	wantChoose(t, g, []int32{0}, upTo(6), 4, 0, 1, 4, 3)
	wantChoose(t, g, []int32{0}, upTo(6), 5, 0, 1, 4, 3, 2)
	wantChoose(t, g, []int32{0}, upTo(6), 6, 0, 1, 4, 3, 2, 5)
	wantChoose(t, g, []int32{0}, upTo(6), 7, 0, 1, 4, 3, 2, 5)
}

func TestNodesEquallyFarAreChosenByTheirPlaces(t *testing.T) {
	g := line(5, -5, 5, -5)
	// The third is 0 far from the first: passed over; so is the fourth.
	wantChoose(t, g, []int32{0}, []int{3, 2, 1, 0}, 1, 0)
	wantChoose(t, g, []int32{0}, []int{3, 2, 1, 0}, 2, 0, 1)
	wantChoose(t, g, []int32{0}, []int{3, 2, 1, 0}, 3, 0, 1, 2)
	wantChoose(t, g, []int32{0}, []int{3, 2, 1, 0}, 4, 0, 1, 2, 3)
	// At q itself all are as far from one another as q is.
	g = line(5, 5, 5)
	wantChoose(t, g, []int32{5}, []int{2, 1, 0}, 2, 0, 1)
}

func TestWhatCantBeToldIsZeroFarFromWhatWasTaken(t *testing.T) {
	// From 0 the node without a vector is 0 far, and so is each other from it: all others are nearer to it.
	g := line(4, -3)
	g.Add(at(), 0, 1)
	wantChoose(t, g, []int32{0}, upTo(3), 1, 2)
	wantChoose(t, g, []int32{0}, upTo(3), 2, 2, 1)
	wantChoose(t, g, []int32{0}, upTo(3), 3, 2, 1, 0)
	// By Minus what is nearer than 0 isn't farther than the one without a vector.
	m := graph(api.Minus, 0, 4, -3)
	m.Add(at(), 0, 1)
	wantChoose(t, m, []int32{1}, upTo(3), 2, 0, 2)
	wantChoose(t, m, []int32{1}, upTo(3), 3, 0, 2, 1)
	wantChoose(t, m, []int32{-1}, upTo(3), 3, 1, 2, 0)
}

func TestMoreThanMaxWidthAreChosen(t *testing.T) {
	g := New(api.Square)
	for i := range 600 {
		g.Add(at(int32(600-i)), 0, 1)
	}
	want := upTo(600)
	slices.Reverse(want)
	for _, most := range []int{255, 256, 257, 599, 600, 601} {
		wantChoose(t, g, []int32{0}, upTo(600), most, want[:min(most, 600)]...)
	}
}
