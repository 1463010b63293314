package tests

import (
	"math"
	"testing"

	"loop.example/g01358/impl"
)

// minusOf returns what SquaredRoots makes for an odd degree: numbers times -1,
// so that their imaginary parts are -0.
func minusOf(terms ...float32) []complex64 {
	list := make([]complex64, len(terms))
	for k, term := range terms {
		list[k] = complex(term, minusZero)
	}
	return list
}

func TestSquaredRoots(t *testing.T) {
	cases := []struct {
		p    impl.Poly
		want []complex64
	}{
		{two(), []complex64{4, -5, 1}},
		{polyOf(1, 0, 1), []complex64{1, 2, 1}},
		{polyOf(0, 0, 1), []complex64{0, 0, 1}},
		{polyOf(1, 2, 3, 4, 5), []complex64{1, 2, 3, 14, 25}},
		{polyOf(complex(0, 2), 0, 1), []complex64{-4, complex(0, 4), 1}},
		{polyOf(complex(0, 2), complex(1, 1), 1), []complex64{-4, complex(0, 2), 1}},
		{power(16, complex(0, 1)), append(make([]complex64, 16), -1)},
		// Odd degrees.
		{polyOf(-2, 1), minusOf(-4, 1)},
		{polyOf(0, 1), minusOf(minusZero, 1)},
		{polyOf(0, 0, 0, 1), minusOf(minusZero, minusZero, minusZero, 1)},
		{withRoots(1, 2, 3), minusOf(-36, 49, -14, 1)},
		{polyOf(0, 1, 0, 1), minusOf(minusZero, 1, 2, 1)},
		{polyOf(0, complex(0, 1)), []complex64{minusBoth, complex(-1, minusZero)}},
		// A term can be lost, but the last one can't.
		{polyOf(0x1p-80, 0, 1), []complex64{0, 0x1p-79, 1}},
		{polyOf(1, 0, 0x1p-74), []complex64{1, 0x1p-73, 0x1p-148}},
		{polyOf(1, 0x1p-74), []complex64{complex(-1, minusZero), complex(0x1p-148, minusZero)}},
	}
	for _, c := range cases {
		got, ok := impl.SquaredRoots(c.p)
		wantPoly(t, plain("SquaredRoots of ", c.p), got, ok, c.want...)
	}
	wrong := append(noRootPolys(), []impl.Poly{
		// The degree is lost, and terms are not finite.
		polyOf(1, 0, 0x1p-80), polyOf(1, 0x1p-80), polyOf(0, 0, 0, complex(0x1p-100, 0x1p-100)), polyOf(0x1p-80, 0x1p-80),
		polyOf(0x1p64, 0, 1), polyOf(1, 0x1p64, 1), polyOf(1, 1, complex(0, 0x1p64)), polyOf(1, 0, 0, 0x1p64), polyOf(1.5*0x1p63, 0, 1.5*0x1p63, 0, 1.5*0x1p63),
	}...)
	for _, p := range wrong {
		got, ok := impl.SquaredRoots(p)
		wantNoPoly(t, plain("SquaredRoots of ", p), got, ok)
	}
}

func TestRadiiOfRoots(t *testing.T) {
	ratio := func(a, b float32, power float32) float32 {
		return impl.ExpNumber((impl.LogNumber(a) - impl.LogNumber(b)) / power)
	}
	cases := []struct {
		p     impl.Poly
		times int64
		want  []float32
	}{
		{polyOf(-1, 1), 0, []float32{1}}, {polyOf(-1, 1), 2, []float32{1}}, {polyOf(-1, 1), 6, []float32{1}}, {polyOf(complex(3, 4), complex(0, 5)), 3, []float32{1}},
		{two(), 0, []float32{ratio(3, 1, 1), ratio(2, 3, 1)}},
		{polyOf(complex(3, 4), 2), 0, []float32{ratio(5, 2, 1)}},
		// Not by the greatest length for 0 times, but for 1 time, here by 5.
		{two(), 1, []float32{ratio(1, 0.2, 2), ratio(0.8, 1, 2)}},
		{polyOf(-2, 1), 1, []float32{ratio(1, 0.25, 2)}},
		{polyOf(-2, 1), 2, []float32{ratio(1, 0.0625, 4)}},
		{polyOf(-0x1p20, 1), 2, []float32{ratio(1, 0x1p-80, 4)}}, {polyOf(1, -0x1p20), 2, []float32{ratio(0x1p-80, 1, 4)}},
		// Behind the third square, a term would be too small.
		{polyOf(-0x1p20, 1), 3, nil}, {polyOf(1, -0x1p20), 3, nil},
		{power(1, 1), 0, nil}, {polyOf(-1, 0, 1), 0, nil}, {polyOf(0, 1, 1), 3, nil},
		// A term of 0 that is none behind a square.
		{polyOf(-1, 0, 1), 1, []float32{ratio(2, 1, 2), ratio(1, 2, 2)}},
		{polyOf(-1, 1), -1, nil}, {polyOf(-1, 1), 7, nil}, {polyOf(-1, 1), math.MaxInt64, nil}, {polyOf(-1, 1), math.MinInt64, nil},
		// Lengths, and a radius, that are not finite.
		{polyOf(complex(greatest, greatest), 1), 0, nil}, {polyOf(1, complex(greatest, greatest)), 0, nil}, {polyOf(complex(greatest, 0), complex(least, 0)), 0, nil},
		{polyOf(complex(0x1p127, 0), 0.25), 0, nil}, {polyOf(complex(0x1p127, 0), 1), 0, []float32{ratio(0x1p127, 1, 1)}},
		{polyOf(complex(least, 0), complex(0x1p126, 0)), 0, []float32{plusZero}},
	}
	for _, c := range cases {
		got, ok := impl.RadiiOfRoots(c.p, c.times)
		what := plain("RadiiOfRoots of ", c.p, " ", c.times, " times")
		if c.want == nil {
			wantNoNumbers(t, what, got, ok)
			continue
		}
		wantNumbers(t, what, got, ok, c.want...)
	}
	for _, p := range noRootPolys() {
		got, ok := impl.RadiiOfRoots(p, 0)
		wantNoNumbers(t, plain("RadiiOfRoots of ", p), got, ok)
	}
}

func TestLeaveRoot(t *testing.T) {
	cases := []struct {
		p    impl.Poly
		z    complex64
		want []complex64
		rest complex64
	}{
		{two(), 1, []complex64{-2, 1}, 0},
		{two(), 2, []complex64{-1, 1}, 0},
		{two(), 3, []complex64{0, 1}, 2},
		{polyOf(-2, 1), 5, []complex64{1}, 3},
		{polyOf(1, 0, 1), complex(0, 1), []complex64{complex(0, 1), 1}, 0},
		{polyOf(5, 4, 3), 0, []complex64{4, 3}, 5},
		{ones(17), 1, []complex64{16, 15, 14, 13, 12, 11, 10, 9, 8, 7, 6, 5, 4, 3, 2, 1}, 17},
		// It is -z that is taken, -0 for 0.
		{polyOf(minusBoth, 1), 0, []complex64{1}, complex(minusZero, plusZero)},
	}
	for _, c := range cases {
		got, rest, ok := impl.LeaveRoot(c.p, c.z)
		what := plain("LeaveRoot of ", c.p, " and ", c.z)
		wantPoly(t, what, got, ok, c.want...)
		wantValue(t, what, rest, ok, c.rest)
	}
	wrong := []pointCase{{power(2, 1), 0x1p64}, {polyOf(1, 1, complex(greatest, 0)), 2}, {polyOf(complex(minusGreat, 0), complex(greatest, 0)), 2}}
	for _, p := range noRootPolys() {
		wrong = append(wrong, pointCase{p, 1})
	}
	for _, x := range infinities() {
		wrong = append(wrong, pointCase{two(), x})
	}
	for _, c := range wrong {
		got, rest, ok := impl.LeaveRoot(c.p, c.z)
		what := plain("LeaveRoot of ", c.p, " and ", c.z)
		wantNoPoly(t, what, got, ok)
		wantNoValue(t, what, rest, ok)
	}
}

func TestRootsOneByOne(t *testing.T) {
	cases := []struct {
		p     impl.Poly
		times int64
		want  []complex64
	}{
		{polyOf(-1, 1), 1, []complex64{1}}, {polyOf(-1, 1), 3, []complex64{1}}, {polyOf(-1, 1), impl.MaxTurns, []complex64{1}},
		{two(), 1, []complex64{1, 2}}, {two(), impl.MaxTurns, []complex64{1, 2}}, {polyOf(-1, 0, 1), 2, []complex64{-1, 1}}, {polyOf(1, 0, 1), 2, []complex64{complex(0, 1), complex(0, -1)}},
		{power(1, 1), 1, []complex64{0}}, {power(16, 2), 4, make([]complex64, 16)},
		// The slope is not finite, and not taken.
		{power(2, complex(greatest, 0)), 4, []complex64{0, 0}},
	}
	for _, c := range cases {
		got, ok := impl.RootsOneByOne(c.p, c.times)
		wantList(t, plain("RootsOneByOne of ", c.p, " ", c.times, " times"), got, ok, c.want...)
	}
	for _, times := range []int64{0, -1, impl.MaxTurns + 1, math.MaxInt64, math.MinInt64} {
		got, ok := impl.RootsOneByOne(two(), times)
		wantNoList(t, plain("RootsOneByOne ", times, " times"), got, ok)
	}
	for _, p := range append(noRootPolys(), polyOf(1, 0, 0, 1), polyOf(1, 0, 0, 0, 1), polyOf(complex(least, 0), 1, 1)) {
		got, ok := impl.RootsOneByOne(p, 5)
		wantNoList(t, plain("RootsOneByOne of ", p), got, ok)
	}
}

// TestRootsOneByOneThatAreNotLeft has a first number, -2^40, from which the
// steps by the slope fail, and by which it can't be divided.
func TestRootsOneByOneThatAreNotLeft(t *testing.T) {
	p := polyOf(1, 0x1p-40, 0, 0x1p60)
	z, ok := impl.LaguerreOnce(p, 0)
	wantValue(t, "the first step", z, ok, -0x1p40)
	left, rest, ok := impl.LeaveRoot(p, z)
	wantNoPoly(t, "what is left", left, ok)
	wantNoValue(t, "the rest", rest, ok)
	got, ok := impl.RootsOneByOne(p, 1)
	wantNoList(t, "roots", got, ok)
}

// TestRootsOneByOneStayWhereStepsFail has numbers from which no step by the
// slope is possible, at first, and behind one of them.
func TestRootsOneByOneStayWhereStepsFail(t *testing.T) {
	// The step by a root of slopes leads to 1, where the slope is 0. Without 1,
	// it is x^2 + x - 2, and leads to 1 again, and then it is x + 2.
	p := polyOf(3, -3, 0, 1)
	last, _ := impl.PolishRoot(p, -2, 2)
	got, ok := impl.RootsOneByOne(p, 1)
	wantList(t, "roots without steps", got, ok, 1, 1, last)
	// The step leads to 1, the next one, by the slope, to 2, where it is 0.
	got, ok = impl.RootsOneByOne(polyOf(68, -68, 0, 27, -8), 1)
	if !ok || len(got) != 4 || !samePair(got[0], 2) {
		t.Errorf("roots with one step: %v, %v", got, ok)
	}
}
