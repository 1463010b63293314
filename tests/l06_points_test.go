package tests

import (
	"testing"

	"loop.example/g01358/impl"
)

func TestArePoints(t *testing.T) {
	for n := 1; n <= impl.MaxTerms; n++ {
		if !impl.ArePoints(stepsBy(1, n)) || !impl.ArePoints(stepsBy(complex(least, minusLeast), n)) {
			t.Errorf("%d different numbers are points", n)
		}
	}
	for _, list := range [][]complex64{
		{0}, {minusBoth}, {complex(greatest, minusGreat)}, {1, complex(afterOne, 0)}, {1, complex(1, least)}, {1, complex(1, minusLeast)},
		{1, complex(0, 1)}, {complex(2, 1), complex(1, 2)}, {1, -1}, {0, complex(least, 0)}, {minusBoth, complex(0, least)}, {complex(1, 2), complex(1, -2)},
	} {
		if !impl.ArePoints(list) {
			t.Errorf("%v are points", list)
		}
	}
	for _, list := range noPointLists() {
		if impl.ArePoints(list) {
			t.Errorf("%v are no points", list)
		}
	}
}

// noValueLists are lists that are no values at n points.
func noValueLists(n int) [][]complex64 {
	lists := [][]complex64{nil, {}, stepsBy(1, n-1), stepsBy(1, n+1), stepsBy(1, 300)}
	for _, x := range infinities() {
		first, last := stepsBy(1, n), stepsBy(1, n)
		first[0], last[n-1] = x, x
		lists = append(lists, first, last)
	}
	return lists
}

// wantNoPointCalls checks that a function fails for what are no points, or no
// values at them.
func wantNoPointCalls(t *testing.T, fails func(what string, points, values []complex64)) {
	t.Helper()
	for _, points := range noPointLists() {
		fails(plain("of the points ", points), points, make([]complex64, len(points)))
	}
	for _, n := range []int{1, 2, 3, impl.MaxTerms} {
		for _, values := range noValueLists(n) {
			fails(plain("of ", n, " points with the values ", values), stepsBy(1, n), values)
		}
	}
}

type passCase struct {
	points, values, want []complex64
}

func TestDividedOf(t *testing.T) {
	third := by(1, 3)
	squares, dividedSquares := make([]complex64, impl.MaxTerms), make([]complex64, impl.MaxTerms)
	for i := range squares {
		squares[i] = complex(float32(i*i), 0)
	}
	dividedSquares[1], dividedSquares[2] = 1, 1
	cases := []passCase{
		{[]complex64{7}, []complex64{minusBoth}, []complex64{minusBoth}},
		{[]complex64{minusBoth}, []complex64{complex(greatest, minusGreat)}, []complex64{complex(greatest, minusGreat)}},
		{[]complex64{2, 0, 1}, []complex64{5, 1, 2}, []complex64{5, 2, 1}},
		{[]complex64{0, 1, 3}, []complex64{0, 1, 9}, []complex64{0, 1, 1}},
		{[]complex64{0, 3}, []complex64{0, 1}, []complex64{0, complex(third, 0)}},
		// i by 1 + i.
		{[]complex64{1, complex(2, 1)}, []complex64{complex(0, 1), complex(0, 2)}, []complex64{complex(0, 1), complex(0.5, 0.5)}},
		{[]complex64{0, complex(0, 1)}, []complex64{0, complex(0, 2)}, []complex64{0, 2}},
		{stepsBy(1, impl.MaxTerms), squares, dividedSquares},
		// Zeros have the signs that the quotient gives them.
		{[]complex64{0, 1}, []complex64{1, 1}, []complex64{1, 0}},
		{[]complex64{1, 0}, []complex64{1, 1}, []complex64{1, complex(plusZero, minusZero)}},
		{[]complex64{0, 1}, []complex64{minusBoth, minusBoth}, []complex64{minusBoth, 0}},
		{[]complex64{0, 1}, []complex64{0, minusBoth}, []complex64{0, complex(minusZero, plusZero)}},
		// Points that are nearly equal, and values that are, too.
		{[]complex64{1, complex(afterOne, 0)}, []complex64{0, complex(0x1p-23, 0)}, []complex64{0, 1}},
		{[]complex64{0, complex(least, 0)}, []complex64{0, complex(0, least)}, []complex64{0, complex(0, 1)}},
	}
	for _, c := range cases {
		got, ok := impl.DividedOf(c.points, c.values)
		wantList(t, plain("DividedOf ", c.points, " and ", c.values), got, ok, c.want...)
	}
	fails := func(what string, points, values []complex64) {
		t.Helper()
		got, ok := impl.DividedOf(points, values)
		wantNoList(t, "DividedOf "+what, got, ok)
	}
	wantNoPointCalls(t, fails)
	for _, c := range tooSteep() {
		fails(plain(c.points, " and ", c.values), c.points, c.values)
	}
}

// tooSteep are values that are far from each other, or at points that are
// nearly equal, so that quotients are not finite.
func tooSteep() []passCase {
	return []passCase{
		{points: []complex64{0, complex(least, 0)}, values: []complex64{0, 1}},
		{points: []complex64{0, complex(0, least)}, values: []complex64{1, 2}},
		{points: []complex64{complex(0x1p-10, 0), complex(beside(0x1p-10), 0)}, values: []complex64{0, 0x1p100}},
		{points: []complex64{0, 1}, values: []complex64{complex(minusGreat, 0), complex(greatest, 0)}},
		{points: []complex64{complex(minusGreat, 0), complex(greatest, 0)}, values: []complex64{0, 1}},
		{points: []complex64{0, 1, complex(afterOne, 0)}, values: []complex64{0, 0, complex(greatest, 0)}},
		{points: []complex64{complex(afterOne, 0), 1, 0}, values: []complex64{complex(greatest, 0), 0, 0}},
	}
}

func TestNewtonAt(t *testing.T) {
	cases := []struct {
		points, divided []complex64
		z, want         complex64
	}{
		{[]complex64{0, 1, 2}, []complex64{1, 1, 1}, 3, 10},
		{[]complex64{0, 1, 2}, []complex64{1, 1, 1}, complex(0, 1), 0},
		{[]complex64{5}, []complex64{minusBoth}, 3, minusBoth},
		{[]complex64{5}, []complex64{complex(1, 2)}, complex(minusGreat, greatest), complex(1, 2)},
		// The last point is not looked at, but must be one.
		{[]complex64{1, 99}, []complex64{3, 2}, 5, 11},
		{[]complex64{complex(1, 1), 0}, []complex64{complex(0, 4), complex(1, -1)}, 2, complex(0, 2)},
		// 16 - 1, then 15 times 16 - 2, and so on.
		{[]complex64{4, 3, 2, 1}, []complex64{1, 1, 1, 1}, 5, 1 + 1 + 2 + 6},
		// At the first point, all others are multiplied by 0.
		{[]complex64{2, 1, 0}, []complex64{7, complex(3, 5), complex(-4, 9)}, 2, 7},
		{[]complex64{1, 0}, []complex64{minusBoth, -2}, 1, complex(minusZero, plusZero)},
	}
	for _, c := range cases {
		got, ok := impl.NewtonAt(c.points, c.divided, c.z)
		wantValue(t, plain("NewtonAt ", c.points, ", ", c.divided, " and ", c.z), got, ok, c.want)
	}
	wantNoPointCalls(t, func(what string, points, divided []complex64) {
		t.Helper()
		for _, z := range []complex64{0, 1} {
			got, ok := impl.NewtonAt(points, divided, z)
			wantNoValue(t, "NewtonAt "+what, got, ok)
		}
	})
	for _, z := range append(infinities(), complex(greatest, 0), complex(0, minusGreat)) {
		got, ok := impl.NewtonAt([]complex64{-2, 1}, []complex64{1, 2}, z)
		wantNoValue(t, plain("NewtonAt ", z), got, ok)
	}
	for _, z := range infinities() {
		got, ok := impl.NewtonAt([]complex64{-2}, []complex64{1}, z)
		wantNoValue(t, plain("NewtonAt one point and ", z), got, ok)
	}
}

func TestNewtonPoly(t *testing.T) {
	cases := []passCase{
		{[]complex64{0, 1, 2}, []complex64{1, 1, 1}, []complex64{1, 0, 1}},
		{[]complex64{5}, []complex64{minusBoth}, []complex64{minusBoth}},
		{[]complex64{5}, []complex64{complex(1, least)}, []complex64{complex(1, least)}},
		{[]complex64{1, 99}, []complex64{3, 2}, []complex64{1, 2}},
		{[]complex64{complex(1, 1), 0}, []complex64{complex(0, 4), complex(1, -1)}, []complex64{complex(-2, 4), complex(1, -1)}},
		// Divided differences of 0 make no higher terms.
		{[]complex64{0, 1, 2}, []complex64{1, 1, 0}, []complex64{1, 1}},
		{[]complex64{0, 1, 2}, []complex64{3, 0, minusBoth}, []complex64{3}},
		{[]complex64{0, 1, 2}, []complex64{0, 0, 0}, []complex64{0}},
		{[]complex64{0, 1, 2}, []complex64{minusBoth, minusBoth, minusBoth}, []complex64{0}},
		{stepsBy(1, impl.MaxTerms), make([]complex64, impl.MaxTerms), []complex64{0}},
		// Of the points, all but the last one are roots.
		{[]complex64{-1, 1, 5}, []complex64{0, 0, 2}, []complex64{-2, 0, 2}},
		{[]complex64{0, complex(0, 1), complex(0, -1), 7}, []complex64{0, 0, 0, 1}, []complex64{0, 1, 0, 1}},
	}
	for _, c := range cases {
		got, ok := impl.NewtonPoly(c.points, c.values)
		wantPoly(t, plain("NewtonPoly ", c.points, " and ", c.values), got, ok, c.want...)
	}
	got, ok := impl.NewtonPoly(stepsBy(complex(0.25, 0.5), impl.MaxTerms), power(impl.MaxTerms-1, 3).Terms)
	if !ok || len(got.Terms) != impl.MaxTerms || got.Terms[16] != 3 {
		t.Errorf("NewtonPoly of most points: %v, %v", got, ok)
	}
	fails := func(what string, points, divided []complex64) {
		t.Helper()
		got, ok := impl.NewtonPoly(points, divided)
		wantNoPoly(t, "NewtonPoly "+what, got, ok)
	}
	wantNoPointCalls(t, fails)
	far := complex(greatest, 0)
	fails("a product that is not valid", []complex64{2, 1}, []complex64{0, far})
	fails("a later product that is not valid", []complex64{2, 1, 0}, []complex64{0, 0, far})
	fails("a sum that is not valid", []complex64{1, 0}, []complex64{far, -far})
}

func TestPassingPoly(t *testing.T) {
	cases := []passCase{
		{[]complex64{0, 1, 2}, []complex64{1, 2, 5}, []complex64{1, 0, 1}},
		{[]complex64{2, 0, 1}, []complex64{5, 1, 2}, []complex64{1, 0, 1}},
		{[]complex64{3}, []complex64{minusBoth}, []complex64{minusBoth}},
		{[]complex64{0, 1, 2, 3}, []complex64{4, 4, 4, 4}, []complex64{4}},
		{[]complex64{0, 1, 2, 3}, []complex64{4, 6, 8, 10}, []complex64{4, 2}},
		{[]complex64{complex(0, 1), complex(0, -1)}, []complex64{2, 4}, []complex64{3, complex(0, 1)}},
	}
	for _, c := range cases {
		got, ok := impl.PassingPoly(c.points, c.values)
		wantPoly(t, plain("PassingPoly of ", c.points, " and ", c.values), got, ok, c.want...)
	}
	fails := func(what string, points, values []complex64) {
		t.Helper()
		got, ok := impl.PassingPoly(points, values)
		wantNoPoly(t, "PassingPoly "+what, got, ok)
	}
	wantNoPointCalls(t, fails)
	for _, c := range tooSteep() {
		fails(plain(c.points, " and ", c.values), c.points, c.values)
	}
	// It is 9/8 of the greatest number at 0.
	fails("a product that is not valid", []complex64{3, -3, 1}, []complex64{0, 0, complex(greatest, 0)})
}

type passAtCase struct {
	points, values []complex64
	z, want        complex64
}

// wantPlaces checks what a function tells at some places, and that it fails.
func wantPlaces(t *testing.T, name string, call func(points, values []complex64, z complex64) (complex64, bool), cases, wrong []passAtCase) {
	t.Helper()
	for _, c := range cases {
		got, ok := call(c.points, c.values, c.z)
		wantValue(t, plain(name, " ", c.points, ", ", c.values, " and ", c.z), got, ok, c.want)
	}
	for _, z := range infinities() {
		wrong = append(wrong, passAtCase{points: []complex64{1}, values: []complex64{2}, z: z}, passAtCase{points: []complex64{1, 2}, values: []complex64{2, 3}, z: z})
	}
	for _, c := range wrong {
		got, ok := call(c.points, c.values, c.z)
		wantNoValue(t, plain(name, " ", c.points, ", ", c.values, " and ", c.z), got, ok)
	}
	wantNoPointCalls(t, func(what string, points, values []complex64) {
		t.Helper()
		for _, z := range []complex64{0, 1, 0.5} {
			got, ok := call(points, values, z)
			wantNoValue(t, name+" "+what, got, ok)
		}
	})
}

func TestNevilleAt(t *testing.T) {
	points, values := []complex64{0, 1, 2}, []complex64{1, 2, 5}
	wantPlaces(t, "NevilleAt", impl.NevilleAt, []passAtCase{
		{points, values, 3, 10}, {points, values, 0, 1}, {points, values, 1, 2}, {points, values, 2, 5}, {points, values, complex(0, 1), 0},
		{points, values, 0.5, 1.25}, {points, values, -1, complex(2, minusZero)},
		// Numbers beside a point.
		{points, values, complex(beside(1), 0), complex(2+0x1p-22, 0)}, {points, values, complex(least, 0), 1},
		{[]complex64{7}, []complex64{minusBoth}, 3, minusBoth},
		{[]complex64{7}, []complex64{complex(0, 4)}, 7, complex(0, 4)},
		{[]complex64{minusBoth, 4}, []complex64{4, 0}, 0, 4},
		{[]complex64{0, 4}, []complex64{4, 0}, 1, 3},
		{[]complex64{0, complex(0, 2)}, []complex64{complex(1, 1), 3}, complex(0, 1), complex(2, 0.5)},
		{stepsBy(1, impl.MaxTerms), repeated[complex64](5, impl.MaxTerms), 3, 5},
	}, []passAtCase{
		{points: points, values: values, z: complex(greatest, 0)},
		{points: []complex64{complex(minusGreat, 0), 0}, values: []complex64{1, 2}, z: complex(greatest, 0)},
		{points: []complex64{0, 1}, values: []complex64{complex(greatest, 0), 0}, z: 3},
		{points: []complex64{0, complex(least, 0)}, values: []complex64{0, 1}, z: 1},
		{points: []complex64{complex(beside(0x1p-10), 0), complex(0x1p-10, 0)}, values: []complex64{0, 0x1p100}, z: 1},
		{points: []complex64{complex(minusGreat, 0), complex(greatest, 0)}, values: []complex64{0, 1}, z: 1},
	})
}

func TestPointWeights(t *testing.T) {
	cases := []struct {
		points, want []complex64
	}{
		{[]complex64{5}, []complex64{1}}, {[]complex64{minusBoth}, []complex64{1}},
		// The products -1 and 2, 1 and -1, and 2 and 2.
		{[]complex64{0, 1, 2}, []complex64{0.5, complex(-1, minusZero), 0.5}},
		{[]complex64{0, 2}, []complex64{complex(-0.5, minusZero), 0.5}},
		{[]complex64{0, complex(0, 2)}, []complex64{complex(0, 0.5), complex(0, -0.5)}},
		// 2 - 2 i makes (1 - i)^2 / 8 of it.
		{[]complex64{complex(1, -1), complex(-1, 1)}, []complex64{complex(0.25, 0.25), complex(-0.25, -0.25)}},
		{[]complex64{1, complex(afterOne, 0)}, []complex64{complex(-0x1p23, minusZero), 0x1p23}},
	}
	for _, c := range cases {
		got, ok := impl.PointWeights(c.points)
		wantList(t, plain("PointWeights of ", c.points), got, ok, c.want...)
	}
	if got, ok := impl.PointWeights(stepsBy(0.5, impl.MaxTerms)); !ok || len(got) != impl.MaxTerms {
		t.Errorf("PointWeights of most points: %v, %v", got, ok)
	}
	for _, points := range append(noPointLists(), noWeightLists()...) {
		got, ok := impl.PointWeights(points)
		wantNoList(t, plain("PointWeights of ", points), got, ok)
	}
}

// noWeightLists are points with a product that is 0, or not finite, or so small
// that 1 by it is not finite.
func noWeightLists() [][]complex64 {
	return [][]complex64{
		{0, 0x1p-80, 0x1p-79}, {5, 0, 0x1p-80, complex(0, 0x1p-80), complex(0x1p-80, 0x1p-80)}, {0, complex(least, 0)}, {complex(0, leastNorm/8), 0},
		{0, 0x1p100, 0x1p80}, {complex(greatest, 0), complex(minusGreat, 0)}, {complex(0, greatest), 1, complex(0, minusGreat)}, stepsBy(1000, impl.MaxTerms),
	}
}

func TestLagrangeAt(t *testing.T) {
	points, values := []complex64{0, 1, 2}, []complex64{1, 2, 5}
	two, twoValues := []complex64{0, 2}, []complex64{0, 4}
	cases := []passAtCase{
		{points, values, 0, 1}, {points, values, 1, 2}, {points, values, 2, 5}, {points, values, minusBoth, 1}, {points, values, complex(1, minusZero), 2},
		// The numbers q are -0.5 and -0.5, -0.125 and 0.25, 0.25 and -0.125.
		{two, twoValues, 1, 2}, {two, twoValues, 4, 8}, {two, twoValues, -2, -4},
		{[]complex64{0}, []complex64{5}, 2, 5}, {[]complex64{0}, []complex64{5}, complex(0, -8), 5},
		{[]complex64{7}, []complex64{minusBoth}, 7, minusBoth}, {[]complex64{7}, []complex64{minusBoth}, 8, 0},
		{[]complex64{7}, []complex64{complex(greatest, minusLeast)}, 7, complex(greatest, minusLeast)},
	}
	wrong := []passAtCase{
		{points: []complex64{complex(minusGreat, 0)}, values: []complex64{1}, z: complex(greatest, 0)},
		{points: []complex64{0, 1}, values: []complex64{complex(greatest, 0), complex(greatest, 0)}, z: complex(least, 0)},
	}
	// At a point itself, weights are not needed. They are beside it.
	for _, list := range noWeightLists() {
		many := stepsBy(complex(1, -1), len(list))
		for i, point := range list {
			cases = append(cases, passAtCase{list, many, point, many[i]})
		}
		wrong = append(wrong, passAtCase{points: list, values: many, z: 3})
	}
	wantPlaces(t, "LagrangeAt", impl.LagrangeAt, cases, wrong)
}

func TestMissOf(t *testing.T) {
	line := polyOf(1, 2)
	cases := []struct {
		p              impl.Poly
		points, values []complex64
		want           float32
	}{
		{line, []complex64{0, 1, 2}, []complex64{1, 3, 5}, 0},
		{line, []complex64{5}, []complex64{11}, 0},
		{polyOf(minusBoth), []complex64{minusBoth}, []complex64{0}, 0},
		// The greatest one is the first, the middle and the last one.
		{line, []complex64{0, 1, 2}, []complex64{8, 2, 6}, 7}, {line, []complex64{0, 1, 2}, []complex64{2, -4, 6}, 7}, {line, []complex64{0, 1, 2}, []complex64{2, 2, 12}, 7},
		{line, []complex64{0, 1}, []complex64{complex(4, 4), 3}, 5},
		{line, []complex64{complex(0, 1), 1}, []complex64{0, 2}, impl.LongOf(complex(1, 2))},
		{polyOf(complex(greatest, 0)), []complex64{1}, []complex64{0}, greatest},
		{polyOf(complex(0, least)), []complex64{1}, []complex64{0}, least},
	}
	for _, c := range cases {
		got, ok := impl.MissOf(c.p, c.points, c.values)
		wantNumber(t, plain("MissOf ", c.p, ", ", c.points, " and ", c.values), got, ok, c.want)
	}
	fails := func(p impl.Poly, what string, points, values []complex64) {
		t.Helper()
		got, ok := impl.MissOf(p, points, values)
		wantNoNumber(t, plain("MissOf ", p, " ", what), got, ok)
	}
	for _, p := range invalidPolys() {
		fails(p, "and one point", []complex64{0}, []complex64{0})
		fails(p, "and three points", []complex64{0, 1, 2}, []complex64{0, 0, 0})
	}
	wantNoPointCalls(t, func(what string, points, values []complex64) {
		t.Helper()
		fails(line, what, points, values)
	})
	fails(power(2, 1), "where a value is not finite", []complex64{0, 0x1p64}, []complex64{0, 0})
	fails(polyOf(complex(greatest, 0)), "where a difference is not finite", []complex64{0}, []complex64{complex(minusGreat, 0)})
	fails(polyOf(complex(greatest, 0)), "where a length is not finite", []complex64{0, 1}, []complex64{complex(greatest, 0), complex(0, greatest)})
}
