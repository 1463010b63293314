package tests

import (
	"math"
	"testing"

	"loop.example/g01358/impl"
)

func TestOrderRoots(t *testing.T) {
	i, plus, minus := complex64(complex(0, 1)), complex64(complex(plusZero, 1)), complex64(complex(minusZero, 1))
	cases := []struct{ list, want []complex64 }{
		{[]complex64{2, i, 0}, []complex64{0, i, 2}},
		{[]complex64{5}, []complex64{5}},
		// Equal real parts.
		{[]complex64{complex(1, 2), complex(1, -1), complex(0, 9), 1}, []complex64{complex(0, 9), complex(1, -1), 1, complex(1, 2)}},
		// Zeros of both signs are equal, and stay in order.
		{[]complex64{plus, minus, plus}, []complex64{plus, minus, plus}},
		{[]complex64{minus, plus, minus}, []complex64{minus, plus, minus}},
		{[]complex64{complex(plusZero, 2), minus}, []complex64{minus, complex(plusZero, 2)}},
		{[]complex64{complex(minusZero, 2), plus}, []complex64{plus, complex(minusZero, 2)}},
		{[]complex64{complex(1, plusZero), complex(1, minusZero), -1}, []complex64{-1, complex(1, plusZero), complex(1, minusZero)}},
		{[]complex64{complex(1, minusZero), complex(1, plusZero), -1}, []complex64{-1, complex(1, minusZero), complex(1, plusZero)}},
		{[]complex64{0, complex(minusLeast, 5), complex(minusGreat, 0), complex(least, -5)}, []complex64{complex(minusGreat, 0), complex(minusLeast, 5), 0, complex(least, -5)}},
		{stepsBy(-1, 16), []complex64{-15, -14, -13, -12, -11, -10, -9, -8, -7, -6, -5, -4, -3, -2, -1, complex(minusZero, 0)}},
	}
	for _, c := range cases {
		got, ok := impl.OrderRoots(c.list)
		wantList(t, plain("OrderRoots of ", c.list), got, ok, c.want...)
	}
	for _, list := range noRootLists() {
		got, ok := impl.OrderRoots(list)
		wantNoList(t, plain("OrderRoots of ", list), got, ok)
	}
}

func TestMatchRoots(t *testing.T) {
	great, far := complex(greatest, 0), complex(minusGreat, 0)
	cases := []struct {
		a, b []complex64
		want []int64
		far  float32
	}{
		{[]complex64{0, 5}, []complex64{4, 1}, []int64{1, 0}, 1},
		{[]complex64{complex(1, 1)}, []complex64{complex(4, 5)}, []int64{0}, 5},
		{[]complex64{minusBoth}, []complex64{0}, []int64{0}, plusZero},
		// Equal distances: the first one, which then is no longer left.
		{[]complex64{0, 0}, []complex64{1, -1}, []int64{0, 1}, 1}, {[]complex64{0, 0}, []complex64{-1, 1}, []int64{0, 1}, 1},
		{[]complex64{0, 0, 0, 0}, []complex64{complex(0, 2), 1, complex(0, -1), -1}, []int64{1, 2, 3, 0}, 2},
		{repeated[complex64](3, 16), repeated[complex64](3, 16), []int64{0, 1, 2, 3, 4, 5, 6, 7, 8, 9, 10, 11, 12, 13, 14, 15}, plusZero},
		// In the order of the former list, although others would be nearer in all.
		{[]complex64{0, 1}, []complex64{1, 10}, []int64{0, 1}, 9}, {[]complex64{1, 0}, []complex64{1, 10}, []int64{0, 1}, 10},
		{[]complex64{1, 2, 3}, []complex64{3.25, 2.5, 0.5}, []int64{2, 1, 0}, 0.5}, {[]complex64{0, 9, 1}, []complex64{9, 5, 0}, []int64{2, 0, 1}, 4},
		{[]complex64{great, far}, []complex64{far, great}, []int64{1, 0}, plusZero}, {[]complex64{0, great}, []complex64{great, 1}, []int64{1, 0}, 1},
	}
	for _, c := range cases {
		got, miss, ok := impl.MatchRoots(c.a, c.b)
		what := plain("MatchRoots of ", c.a, " and ", c.b)
		wantIntegers(t, what, got, ok, c.want...)
		wantNumber(t, what, miss, ok, c.far)
	}
	wrong := []struct{ a, b []complex64 }{
		{[]complex64{1}, []complex64{1, 2}}, {[]complex64{1, 2}, []complex64{1}}, {stepsBy(1, 16), stepsBy(1, 15)},
		// The greatest difference is not finite.
		{[]complex64{great}, []complex64{far}}, {[]complex64{1, great}, []complex64{1, far}}, {[]complex64{complex(greatest, greatest)}, []complex64{0}},
	}
	for _, list := range noRootLists() {
		wrong = append(wrong, struct{ a, b []complex64 }{list, list}, struct{ a, b []complex64 }{list, make([]complex64, len(list))}, struct{ a, b []complex64 }{make([]complex64, len(list)), list})
	}
	for _, c := range wrong {
		got, miss, ok := impl.MatchRoots(c.a, c.b)
		what := plain("MatchRoots of ", c.a, " and ", c.b)
		wantNoIntegers(t, what, got, ok)
		wantNoNumber(t, what, miss, ok)
	}
}

func TestClustersOfRoots(t *testing.T) {
	cases := []struct {
		list []complex64
		near float32
		want []int64
	}{
		{[]complex64{0, 1, 5}, 1, []int64{0, 0, 1}}, {[]complex64{0, 1, 5}, 0.9999999, []int64{0, 1, 2}}, {[]complex64{0, 1, 5}, 4, []int64{0, 0, 0}}, {[]complex64{7}, 0, []int64{0}},
		// By others only, which come later, or are more than one.
		{[]complex64{0, 2, 1}, 1, []int64{0, 0, 0}}, {[]complex64{0, 3, 1, 2}, 1, []int64{0, 0, 0, 0}}, {[]complex64{0, 3, 2, 1}, 1, []int64{0, 0, 0, 0}}, {stepsBy(-2, 16), 2, make([]int64, 16)},
		{[]complex64{0, 10, 2, 12, 1, 11, 5}, 1, []int64{0, 1, 0, 1, 0, 1, 2}}, {[]complex64{5, 0, 6, 1}, 1, []int64{0, 1, 0, 1}}, {[]complex64{3, 0, 9, 6, 12}, 3, []int64{0, 0, 0, 0, 0}},
		{[]complex64{0, complex(3, 4), 20}, 5, []int64{0, 0, 1}}, {[]complex64{0, complex(3, 4), 20}, 4.9999995, []int64{0, 1, 2}},
		{[]complex64{1, 2, 1}, plusZero, []int64{0, 1, 0}}, {[]complex64{1, 2, 1}, minusZero, []int64{0, 1, 0}}, {[]complex64{0, minusBoth, complex(least, 0)}, 0, []int64{0, 0, 1}},
		{[]complex64{complex(greatest, 0), complex(minusGreat, 0)}, greatest, []int64{0, 1}}, {[]complex64{complex(greatest, 0), complex(minusGreat, 0), 0}, greatest, []int64{0, 0, 0}},
	}
	for _, c := range cases {
		got, ok := impl.ClustersOfRoots(c.list, c.near)
		wantIntegers(t, plain("ClustersOfRoots of ", c.list, " and ", c.near), got, ok, c.want...)
	}
	for _, near := range []float32{-1, minusLeast, plusInf, minusInf, nan, oddNaN} {
		got, ok := impl.ClustersOfRoots([]complex64{0, 1}, near)
		wantNoIntegers(t, plain("ClustersOfRoots for ", near), got, ok)
	}
	for _, list := range noRootLists() {
		got, ok := impl.ClustersOfRoots(list, 1)
		wantNoIntegers(t, plain("ClustersOfRoots of ", list), got, ok)
	}
}

type followCase struct {
	p, q         impl.Poly
	list         []complex64
	steps, times int64
	want         []complex64
}

func followCases() []followCase {
	one, other := polyOf(-1, 1), polyOf(-2, 1)
	return []followCase{
		{one, other, []complex64{1}, 2, 2, []complex64{2}}, {one, other, []complex64{9}, 1, 1, []complex64{2}}, {one, other, []complex64{1}, impl.MaxTurns, 1, []complex64{2}},
		{one, other, []complex64{minusBoth}, impl.MaxTurns, 0, []complex64{minusBoth}}, {one, other, []complex64{1}, 1, impl.MaxTurns, []complex64{2}},
		// From 2 to 1.25, and from there to 1.025, by x^2 - 1; then by x^2 - 2.
		{polyOf(0, 0, 1), polyOf(-2, 0, 1), []complex64{2, -2}, 2, 1, []complex64{1.425, -1.425}},
		// At the end, it is q alone: from 4 by x^2 to 2, and to 1.
		{polyOf(-100, 0, 1), power(2, 1), []complex64{4, 0}, 1, 2, []complex64{1, 0}},
		// Half-way, there is no degree of 1, which is not met in one or in three steps.
		{polyOf(1, 1), polyOf(1, -1), []complex64{7}, 1, 1, []complex64{1}}, {polyOf(1, 1), polyOf(1, -1), []complex64{7}, 3, 1, []complex64{1}},
		// Half-way, there is a lower degree: from 1 and 2 to 0.
		{polyOf(0, 1, 1), polyOf(0, 1, -1), []complex64{1, 2}, 2, 1, []complex64{0, 0}},
	}
}

func TestFollowRoots(t *testing.T) {
	for _, c := range followCases() {
		got, ok := impl.FollowRoots(c.p, c.q, c.list, c.steps, c.times)
		what := plain("FollowRoots from ", c.p, " to ", c.q, " by ", c.steps, " and ", c.times)
		wantList(t, what, got, ok, c.want...)
	}
	good := followCases()[0]
	wantNone := func(c followCase) {
		t.Helper()
		got, ok := impl.FollowRoots(c.p, c.q, c.list, c.steps, c.times)
		wantNoList(t, plain("FollowRoots from ", c.p, " to ", c.q, " with ", c.list, " by ", c.steps, " and ", c.times), got, ok)
	}
	one, other := good.p, good.q
	for _, wrong := range []int64{-1, impl.MaxTurns + 1, math.MaxInt64, math.MinInt64} {
		wantNone(followCase{one, other, good.list, wrong, 2, nil})
		wantNone(followCase{one, other, good.list, 2, wrong, nil})
	}
	wantNone(followCase{one, other, good.list, 0, 2, nil})
	for _, p := range noRootPolys() {
		wantNone(followCase{p, other, good.list, 2, 2, nil})
		wantNone(followCase{one, p, good.list, 2, 2, nil})
		wantNone(followCase{p, p, stepsBy(1, max(0, len(p.Terms)-1)), 2, 0, nil})
	}
	for _, list := range append(noRootLists(), []complex64{1, 2}) {
		wantNone(followCase{one, other, list, 2, 2, nil})
	}
	for _, c := range []followCase{
		// Different degrees, and a degree of 0 half-way, also for no times.
		{one, two(), []complex64{1}, 2, 2, nil}, {one, two(), []complex64{1, 2}, 2, 2, nil}, {two(), one, []complex64{1}, 2, 2, nil}, {two(), one, []complex64{1, 2}, 2, 2, nil}, {two(), two(), []complex64{1}, 2, 2, nil},
		{polyOf(1, 1), polyOf(1, -1), []complex64{7}, 2, 1, nil}, {polyOf(1, 1), polyOf(1, -1), []complex64{7}, 2, 0, nil}, {polyOf(1, 1), polyOf(-1, -1), []complex64{7}, 2, 1, nil},
		// A step that fails, for the second number.
		{polyOf(-1, 0, 1), polyOf(1, 0, 1), []complex64{1, 0}, 1, 1, nil}, {polyOf(-1, 0, 1), polyOf(1, 0, 1), []complex64{0, 1}, 1, 1, nil},
	} {
		wantNone(c)
	}
}

func TestBasinOf(t *testing.T) {
	line, square := polyOf(-1, 1), polyOf(-1, 0, 1)
	great, far := complex(greatest, 0), complex(minusGreat, 0)
	cases := []struct {
		p     impl.Poly
		list  []complex64
		z     complex64
		times int64
		want  int64
	}{
		{line, []complex64{5, 1}, 3, 2, 1}, {line, []complex64{5, 1}, 4, 0, 0}, {line, []complex64{1, 5}, 4, 1, 0}, {square, []complex64{1, -1}, -5, impl.MaxTurns, 1}, {square, []complex64{-1, 1, 7}, complex(0.1, 5), impl.MaxTurns, 1},
		// The first one of several.
		{square, []complex64{1, -1}, 0, 0, 0}, {square, []complex64{-1, 1}, 0, 0, 0}, {line, []complex64{9, 2, 0, 2, complex(1, 1)}, 3, 3, 1}, {line, []complex64{4}, 9, 1, 0}, {line, stepsBy(1, 16), 15, 0, 15},
		// Differences that are not finite, of one and of all.
		{line, []complex64{far, 0}, great, 0, 1}, {line, []complex64{far, complex(minusGreat, 5), complex(minusGreat, 7)}, great, 0, 0}, {line, []complex64{complex(0, greatest), complex(minusGreat, 0), 0}, complex(greatest, minusGreat), 0, 0},
	}
	for _, c := range cases {
		got, ok := impl.BasinOf(c.p, c.list, c.z, c.times)
		wantInteger(t, plain("BasinOf ", c.z, " for ", c.p, " and ", c.list, " ", c.times, " times"), got, ok, c.want)
	}
	wantNone := func(p impl.Poly, list []complex64, z complex64, times int64) {
		t.Helper()
		got, ok := impl.BasinOf(p, list, z, times)
		wantNoInteger(t, plain("BasinOf ", z, " for ", p, " and ", list, " ", times, " times"), got, ok)
	}
	// From 0, there is no step, and from i, there is only one, to 0.
	wantNone(square, []complex64{1, -1}, 0, 1)
	wantNone(square, []complex64{1, -1}, complex(0, 1), 2)
	for _, times := range []int64{-1, impl.MaxTurns + 1, math.MaxInt64, math.MinInt64} {
		wantNone(line, []complex64{1}, 1, times)
	}
	for _, p := range noRootPolys() {
		wantNone(p, []complex64{1}, 1, 0)
	}
	for _, list := range noRootLists() {
		wantNone(line, list, 1, 0)
	}
	for _, x := range infinities() {
		wantNone(line, []complex64{1}, x, 0)
	}
}

type gridCase struct {
	p           impl.Poly
	list        []complex64
	b           sides
	side, times int64
	want        []int64
}

func gridCases() []gridCase {
	square, pair := polyOf(-1, 0, 1), []complex64{-1, 1}
	return []gridCase{
		{polyOf(-1, 1), []complex64{5, 1}, sides{0, complex(1, 1)}, 2, 2, []int64{1, 1, 1, 1}},
		// Row by row, from the low corner on.
		{polyOf(-1, 1), []complex64{0, 1, complex(0, 1), complex(1, 1)}, sides{0, complex(1, 1)}, 2, 0, []int64{0, 1, 2, 3}},
		{polyOf(-1, 1), []complex64{complex(-1, -4), complex(0, -4), complex(1, -4), -1, 0, 1, complex(-1, 4), complex(0, 4), complex(1, 4)}, sides{complex(-1, -4), complex(1, 4)}, 3, 0, []int64{0, 1, 2, 3, 4, 5, 6, 7, 8}},
		// In the middle, the first one of both is told for no times, and no step is possible; beside it, parts stay 0.
		{square, pair, sides{complex(-2, -2), complex(2, 2)}, 3, 0, []int64{0, 0, 1, 0, 0, 1, 0, 0, 1}},
		{square, pair, sides{complex(-2, -2), complex(2, 2)}, 3, 5, []int64{0, 0, 1, 0, -1, 1, 0, 0, 1}},
		// From i and -i, the second step is not possible.
		{square, pair, sides{complex(-1, -1), complex(1, 1)}, 3, 1, []int64{0, 0, 1, 0, -1, 1, 0, 0, 1}},
		{square, pair, sides{complex(-1, -1), complex(1, 1)}, 3, 2, []int64{0, -1, 1, 0, -1, 1, 0, -1, 1}},
		{power(2, 1), []complex64{1}, sides{0, complex(0x1p64, 0x1p64)}, 2, 1, []int64{0, -1, -1, -1}},
	}
}

func TestBasinGrid(t *testing.T) {
	for _, c := range gridCases() {
		for workers := int64(1); workers <= impl.MaxWorkers; workers++ {
			got, ok := impl.BasinGrid(c.p, c.list, c.b.low, c.b.high, c.side, c.times, workers)
			wantIntegers(t, plain("BasinGrid of ", c.p, " ", c.times, " times with ", workers, " workers"), got, ok, c.want...)
		}
	}
	c := gridCases()[4]
	wantNone := func(p impl.Poly, list []complex64, b sides, side, times, workers int64) {
		t.Helper()
		got, ok := impl.BasinGrid(p, list, b.low, b.high, side, times, workers)
		wantNoIntegers(t, plain("BasinGrid of ", p, list, b, side, " ", times, " ", workers), got, ok)
	}
	for _, wrong := range []int64{-1, math.MaxInt64, math.MinInt64} {
		wantNone(c.p, c.list, c.b, wrong, 1, 1)
		wantNone(c.p, c.list, c.b, 3, wrong, 1)
		wantNone(c.p, c.list, c.b, 3, 1, wrong)
	}
	wantNone(c.p, c.list, c.b, 0, 1, 1)
	wantNone(c.p, c.list, c.b, 1, 1, 1)
	wantNone(c.p, c.list, c.b, impl.MaxGridSide+1, 1, 1)
	wantNone(c.p, c.list, c.b, 3, impl.MaxTurns+1, 1)
	wantNone(c.p, c.list, c.b, 3, 1, 0)
	wantNone(c.p, c.list, c.b, 3, 1, impl.MaxWorkers+1)
	for _, b := range noBoxes() {
		wantNone(c.p, c.list, b, 3, 1, 1)
	}
	for _, list := range noRootLists() {
		wantNone(c.p, list, c.b, 3, 1, 1)
	}
	for _, p := range noRootPolys() {
		wantNone(p, c.list, c.b, 3, 1, 1)
	}
}

// TestBasinGridIsBasinOf has the greatest side and times.
func TestBasinGridIsBasinOf(t *testing.T) {
	p := withRoots(1, complex(-0.5, 0.75), complex(-0.5, -0.875))
	list := []complex64{1, complex(-0.5, 0.75), complex(-0.5, -0.875), 3}
	low, high := complex64(complex(-1.7, -1.3)), complex64(complex(1.9, 2.1))
	for _, side := range []int64{2, 7, impl.MaxGridSide} {
		for _, times := range []int64{0, 3, impl.MaxTurns} {
			want := []int64{}
			last := float32(side - 1)
			for k := range side {
				for i := range side {
					wide := high - low
					re := float32(real(wide) * (float32(i) / last))
					im := float32(imag(wide) * (float32(k) / last))
					index, ok := impl.BasinOf(p, list, low+complex(re, im), times)
					if !ok {
						index = -1
					}
					want = append(want, index)
				}
			}
			for _, workers := range []int64{1, 3, impl.MaxWorkers} {
				got, ok := impl.BasinGrid(p, list, low, high, side, times, workers)
				wantIntegers(t, plain("BasinGrid with a side of ", side, " ", times, " times"), got, ok, want...)
			}
		}
	}
}
