package tests

import (
	"testing"

	"loop.example/g01358/impl"
)

type fitQuotientCase struct {
	a            []complex64
	above, below int64
	p, q         []complex64
}

func fitQuotientCases() []fitQuotientCase {
	one := []complex64{1}
	powersOfTwo := []complex64{1, 2, 4, 8, 16, 32, 64, 128}
	return []fitQuotientCase{
		{[]complex64{1, 1}, 0, 1, one, []complex64{1, -1}}, {[]complex64{1, 1}, 1, 0, []complex64{1, 1}, one}, {[]complex64{3}, 0, 0, []complex64{3}, one},
		{[]complex64{0}, 0, 0, []complex64{0}, one}, {[]complex64{minusBoth}, 0, 0, []complex64{0}, one}, {[]complex64{1, 2, 3}, 0, 0, one, one}, {[]complex64{1, 2, 3}, 1, 0, []complex64{1, 2}, one},
		{[]complex64{1, 0, minusBoth}, 2, 0, one, one}, {filled(impl.MaxSeries), impl.MaxSeries - 1, 0, []complex64{0}, one},
		{countUp(1, impl.MaxSeries), impl.MaxSeries - 1, 0, countUp(1, impl.MaxSeries), one},
		// 1 / (1 - x)^2, whose rows 1, 0 and 2, 1 change places.
		{[]complex64{1, 2, 3}, 0, 2, one, []complex64{1, -2, 1}},
		// 0, 1 and 2, 0: the former row has 0 in the middle.
		{[]complex64{1, 0, 2, 0}, 1, 2, one, []complex64{1, 0, -2}},
		// What is missing in front of the series counts as 0.
		// 8, 0, 0 and 4, 8, 0 and 2, 4, 8 have -4, -2 and -4 at the right side.
		{[]complex64{8, 4, 2, 4, 99}, 0, 3, []complex64{8}, []complex64{1, -0.5, 0, -0.375}},
		{[]complex64{1, 0, 0, 0, 1}, 0, 4, one, []complex64{1, 0, 0, 0, -1}}, {[]complex64{1, 0, 0, 0, 5, 0, 0, 0, 7}, 0, 4, one, []complex64{1, 0, 0, 0, -5}},
		{[]complex64{16, 0, 8, 0, 16}, 0, 4, []complex64{16}, []complex64{1, 0, -0.5, 0, -0.75}},
		// q has lower terms than it may.
		{powersOfTwo, 0, 2, one, []complex64{1, -2}}, {powersOfTwo, 3, 1, one, []complex64{1, -2}}, {[]complex64{5, 0, 0}, 0, 2, []complex64{5}, one}, {[]complex64{5, 1, 0, 0}, 1, 2, []complex64{5, 1}, one},
		// (1 + 2 x) / (1 - x^2), and (2 + i x) / (1 + x).
		{[]complex64{1, 2, 1, 2, 7, 7}, 1, 2, []complex64{1, 2}, []complex64{1, 0, -1}}, {[]complex64{3, 1, 4, 2, 1}, 2, 2, []complex64{3, -0.5, 3.5}, []complex64{1, -0.5}}, {[]complex64{2, complex(-2, 1), complex(2, -1)}, 1, 1, []complex64{2, complex(0, 1)}, []complex64{1, 1}},
		{[]complex64{1, complex(0, 1), -1, complex(0, -1)}, 0, 1, one, []complex64{1, complex(0, -1)}},
		// The greatest number is told by both parts.
		{[]complex64{complex(0, 2), 0}, 0, 1, []complex64{complex(0, 2)}, one},
		// Great and small numbers.
		{[]complex64{complex(least, 0), 0}, 0, 1, []complex64{complex(least, 0)}, one}, {[]complex64{complex(greatest, minusGreat), 0}, 0, 1, []complex64{complex(greatest, minusGreat)}, one},
	}
}

func wantNoQuotient(t *testing.T, a []complex64, above, below int64) {
	t.Helper()
	p, q, ok := impl.FitQuotient(a, above, below)
	what := plain("FitQuotient ", a, ", ", above, " and ", below)
	wantNoPoly(t, what, p, ok)
	wantNoPoly(t, what, q, ok)
}

func TestFitQuotient(t *testing.T) {
	for _, c := range fitQuotientCases() {
		p, q, ok := impl.FitQuotient(c.a, c.above, c.below)
		what := plain("FitQuotient ", c.a, ", ", c.above, " and ", c.below)
		wantPoly(t, what, p, ok, c.p...)
		wantPoly(t, what, q, ok, c.q...)
	}
	for _, a := range noSeries(1) {
		wantNoQuotient(t, a, 0, 0)
		wantNoQuotient(t, a, 1, 0)
		wantNoQuotient(t, a, 0, 1)
	}
}

func TestDegreesOfQuotients(t *testing.T) {
	for n := int64(1); n <= impl.MaxSeries; n++ {
		// No row has a 0 in the middle where others are 0.
		a := filled(int(n), 1)
		for above := int64(-1); above <= n; above++ {
			for below := int64(-1); below <= 6; below++ {
				if isIn := above >= 0 && below >= 0 && below <= 4 && above+below < n; !isIn {
					wantNoQuotient(t, a, above, below)
				} else if above == 0 {
					p, q, ok := impl.FitQuotient(a, above, below)
					wantPoly(t, "p of 1", p, ok, 1)
					wantPoly(t, "q of 1", q, ok, 1)
				}
			}
		}
		for _, far := range farNumbers() {
			wantNoQuotient(t, a, far, 0)
			wantNoQuotient(t, a, 0, far)
			wantNoQuotient(t, a, far, far)
			wantNoQuotient(t, a, far, -far)
			wantNoQuotient(t, a, far, 4)
		}
	}
}

// TestNoQuotients has rows that can't be solved, and numbers that are not
// finite.
func TestNoQuotients(t *testing.T) {
	for below := int64(1); below <= 4; below++ {
		wantNoQuotient(t, filled(impl.MaxSeries), 0, below)
		wantNoQuotient(t, filled(impl.MaxSeries), 5, below)
		wantNoQuotient(t, filled(impl.MaxSeries, minusBoth, complex(minusZero, 0)), 0, below)
		wantNoQuotient(t, filled(impl.MaxSeries, 0, 1), 0, below)
		wantNoQuotient(t, filled(impl.MaxSeries, 1, 2), 2, below)
	}
	ones := repeated[complex64](1, impl.MaxSeries)
	for below := int64(2); below <= 4; below++ {
		wantNoQuotient(t, ones, below, below)
	}
	far := complex(greatest, 0)
	wantNoQuotient(t, []complex64{complex(least, 0), 1}, 0, 1)
	wantNoQuotient(t, []complex64{1, far, 1}, 0, 2)
	wantNoQuotient(t, []complex64{far, far, -far}, 1, 1)
	wantNoQuotient(t, []complex64{0x1p-70, 1, 0, 0x1p70}, 0, 3)
	// The right side is not finite on the way.
	wantNoQuotient(t, []complex64{1, far, far, -far}, 1, 2)
	// x is finite, and p is not.
	wantNoQuotient(t, []complex64{far, 1, -4}, 1, 1)
}

func TestQuotientAt(t *testing.T) {
	cases := []struct {
		p, q    impl.Poly
		z, want complex64
	}{
		{polyOf(1), polyOf(1, -1), 0.5, 2}, {polyOf(1, 1), polyOf(2), 3, 2}, {polyOf(0), polyOf(1), 3, 0}, {polyOf(5, 1), polyOf(5, 1), complex(1, 2), 1},
		{polyOf(0, 4), polyOf(2), complex(0, 1), complex(0, 2)}, {polyOf(1), polyOf(3), 0, complex(by(1, 3), 0)}, {ones(impl.MaxTerms), ones(impl.MaxTerms), 1, 1},
		{polyOf(minusBoth), polyOf(1), 9, complex(minusZero, 0)}, {polyOf(complex(greatest, 0)), polyOf(complex(greatest, 0)), 0, 1}, {polyOf(-1, 0, 1), polyOf(-1, 1), 2, 3},
		{polyOf(1), polyOf(complex(0, 1)), 1, complex(0, -1)},
	}
	for _, c := range cases {
		got, ok := impl.QuotientAt(c.p, c.q, c.z)
		wantValue(t, plain("QuotientAt ", c.p, ", ", c.q, " and ", c.z), got, ok, c.want)
	}
	fails := func(p, q impl.Poly, z complex64) {
		t.Helper()
		got, ok := impl.QuotientAt(p, q, z)
		wantNoValue(t, plain("QuotientAt ", p, ", ", q, " and ", z), got, ok)
	}
	for _, p := range invalidPolys() {
		fails(p, polyOf(1, 2), 1)
		fails(polyOf(1, 2), p, 1)
	}
	for _, z := range infinities() {
		fails(polyOf(1), polyOf(1), z)
		fails(polyOf(1, 2), polyOf(1, 2), z)
	}
	// q is 0 at z, or a value is not finite.
	fails(polyOf(1), polyOf(-1, 1), 1)
	fails(polyOf(-1, 1), polyOf(-1, 1), 1)
	fails(polyOf(1), polyOf(0), 1)
	fails(polyOf(0), polyOf(minusBoth), 1)
	fails(polyOf(0, 0x1p70), polyOf(1), 0x1p70)
	fails(polyOf(1), polyOf(0, 0x1p70), 0x1p70)
	fails(polyOf(0x1p70), polyOf(0x1p-70), 0)
	fails(polyOf(1), polyOf(complex(least, 0)), 0)
}

func TestSeriesOfQuotient(t *testing.T) {
	cases := []struct {
		p, q  impl.Poly
		count int64
		want  []complex64
	}{
		{polyOf(1), polyOf(1, -1), 3, []complex64{1, 1, 1}}, {polyOf(1), polyOf(1, -1), 1, []complex64{1}}, {polyOf(1), polyOf(1, -1), impl.MaxSeries, repeated[complex64](1, impl.MaxSeries)},
		{polyOf(0), polyOf(1), 2, []complex64{0, 0}}, {polyOf(1, 2, 3), polyOf(1), 2, []complex64{1, 2}}, {polyOf(1, 2, 3), polyOf(1), 5, []complex64{1, 2, 3, 0, 0}},
		{polyOf(2, 4), polyOf(2, 0, 0, 0, 0, 7), 2, []complex64{1, 2}}, {ones(impl.MaxTerms), polyOf(1), impl.MaxSeries, repeated[complex64](1, impl.MaxSeries)},
		{polyOf(1), ones(impl.MaxTerms), impl.MaxSeries, filled(impl.MaxSeries, 1, -1)}, {ones(impl.MaxTerms), ones(impl.MaxTerms), impl.MaxSeries, filled(impl.MaxSeries, 1)},
		{polyOf(0, 1), polyOf(1, -1, -1), 7, []complex64{0, 1, 1, 2, 3, 5, 8}}, {polyOf(complex(0, 4)), polyOf(2), 1, []complex64{complex(0, 2)}},
		// Terms that are left out need not be divided.
		{polyOf(1, complex(greatest, 0)), polyOf(0.5, complex(greatest, 0)), 1, []complex64{2}},
	}
	for _, c := range cases {
		got, ok := impl.SeriesOfQuotient(c.p, c.q, c.count)
		wantList(t, plain("SeriesOfQuotient ", c.p, ", ", c.q, " and ", c.count), got, ok, c.want...)
	}
	fails := func(p, q impl.Poly, count int64) {
		t.Helper()
		got, ok := impl.SeriesOfQuotient(p, q, count)
		wantNoList(t, plain("SeriesOfQuotient ", p, ", ", q, " and ", count), got, ok)
	}
	for _, count := range append(farNumbers(), -1, 0, impl.MaxSeries+1, impl.MaxTerms+1) {
		fails(polyOf(1), polyOf(1), count)
		fails(ones(impl.MaxTerms), ones(impl.MaxTerms), count)
	}
	for _, count := range []int64{1, 2, 5, impl.MaxSeries} {
		for _, p := range invalidPolys() {
			fails(p, polyOf(1, 2), count)
			fails(polyOf(1, 2), p, count)
		}
		for _, q := range []impl.Poly{polyOf(0), polyOf(minusBoth), polyOf(0, 1), polyOf(complex(minusZero, 0), 0, 1), polyOf(complex(least, 0), 1)} {
			fails(polyOf(1), q, count)
			fails(polyOf(0, 1), q, count)
		}
	}
	fails(polyOf(1, complex(greatest, 0)), polyOf(0.5, complex(greatest, 0)), 2)
}

func TestPartsOf(t *testing.T) {
	cases := []struct {
		p           impl.Poly
		roots, want []complex64
	}{
		{polyOf(1), []complex64{0, 2}, []complex64{complex(-0.5, minusZero), 0.5}}, {polyOf(1), []complex64{2, 0}, []complex64{0.5, complex(-0.5, minusZero)}},
		{polyOf(3, 1), []complex64{1}, []complex64{4}}, {polyOf(7), []complex64{complex(greatest, minusGreat)}, []complex64{7}}, {polyOf(0), []complex64{1, 2}, []complex64{complex(0, minusZero), 0}},
		// 1 / (-1 (-2)), 1 / (1 (-1)), and 1 / (2 1).
		{polyOf(1), []complex64{0, 1, 2}, []complex64{0.5, complex(-1, minusZero), 0.5}},
		{polyOf(0, 1), []complex64{complex(0, 1), complex(0, -1)}, []complex64{0.5, 0.5}}, {polyOf(0, 0, 0, 1), []complex64{1, -1}, []complex64{0.5, 0.5}},
		{polyOf(1), []complex64{1, complex(afterOne, 0)}, []complex64{complex(-0x1p23, minusZero), 0x1p23}},
	}
	for _, c := range cases {
		got, ok := impl.PartsOf(c.p, c.roots)
		wantList(t, plain("PartsOf ", c.p, " and ", c.roots), got, ok, c.want...)
	}
	got, ok := impl.PartsOf(ones(impl.MaxTerms), stepsBy(0.5, impl.MaxRoots))
	if !ok || len(got) != impl.MaxRoots {
		t.Errorf("PartsOf most roots: %v, %v", got, ok)
	}
	fails := func(p impl.Poly, roots []complex64) {
		t.Helper()
		got, ok := impl.PartsOf(p, roots)
		wantNoList(t, plain("PartsOf ", p, " and ", roots), got, ok)
	}
	for _, roots := range noRootLists() {
		fails(polyOf(1), roots)
	}
	for _, p := range invalidPolys() {
		fails(p, []complex64{1})
		fails(p, []complex64{1, 2})
	}
	for _, p := range []impl.Poly{polyOf(0), polyOf(1), polyOf(-1, 1)} {
		for _, roots := range [][]complex64{{1, 1}, {0, minusBoth}, {complex(0, 1), 2, complex(minusZero, 1)}, {2, 3, complex(4, 1), 3}, append(stepsBy(1, impl.MaxRoots-1), 0)} {
			fails(p, roots)
		}
	}
	// Products that are 0, or not finite, and values and quotients that are not.
	for _, roots := range noWeightLists() {
		if len(roots) <= impl.MaxRoots {
			fails(polyOf(1), roots)
		}
	}
	fails(polyOf(0, 0x1p70), []complex64{0x1p70, 0})
	fails(polyOf(0x1p70), []complex64{0, 0x1p-70})
}

func TestPartsAt(t *testing.T) {
	cases := []struct {
		parts, roots []complex64
		z, want      complex64
	}{
		{[]complex64{complex(-0.5, minusZero), 0.5}, []complex64{0, 2}, 1, -1}, {[]complex64{6}, []complex64{1}, 3, 3}, {[]complex64{1, 2}, []complex64{1, 1}, 2, 3},
		{[]complex64{1}, []complex64{complex(0, 1)}, 0, complex(0, 1)}, {[]complex64{0}, []complex64{1}, 0, 0}, {[]complex64{minusBoth}, []complex64{0}, 1, 0},
		{repeated[complex64](0.5, impl.MaxRoots), repeated[complex64](3, impl.MaxRoots), 5, 4},
		{[]complex64{1}, []complex64{1}, complex(afterOne, 0), 0x1p23}, {[]complex64{complex(greatest, 0)}, []complex64{0}, complex(greatest, 0), 1},
		// The sum goes from left to right.
		{[]complex64{0x1p24, 1, 1}, []complex64{0, 0, 0}, 1, 0x1p24}, {[]complex64{1, 1, 0x1p24}, []complex64{0, 0, 0}, 1, 0x1p24 + 2},
	}
	for _, c := range cases {
		got, ok := impl.PartsAt(c.parts, c.roots, c.z)
		wantValue(t, plain("PartsAt ", c.parts, ", ", c.roots, " and ", c.z), got, ok, c.want)
	}
	fails := func(parts, roots []complex64, z complex64) {
		t.Helper()
		got, ok := impl.PartsAt(parts, roots, z)
		wantNoValue(t, plain("PartsAt ", parts, ", ", roots, " and ", z), got, ok)
	}
	for _, list := range noRootLists() {
		fails(list, make([]complex64, len(list)), 5)
		fails(make([]complex64, len(list)), list, 5)
		fails(list, list, 5)
	}
	for n := range impl.MaxRoots + 2 {
		for m := range impl.MaxRoots + 2 {
			if n != m {
				fails(make([]complex64, n), stepsBy(1, m), 50)
			}
		}
	}
	for _, z := range infinities() {
		fails([]complex64{1, 2}, []complex64{1, 2}, z)
		fails([]complex64{0}, []complex64{0}, z)
	}
	// At a root, or at what differs from it by the sign of a zero.
	for _, part := range []complex64{0, 1, complex(0, 2)} {
		fails([]complex64{part}, []complex64{1}, 1)
		fails([]complex64{1, part}, []complex64{3, 0}, minusBoth)
		fails([]complex64{part, 1}, []complex64{complex(minusZero, 1), 0}, complex(0, 1))
	}
	far := complex(greatest, 0)
	fails([]complex64{1}, []complex64{far}, -far)
	fails([]complex64{far}, []complex64{0}, 0.5)
	fails([]complex64{far, far}, []complex64{0, 0}, 1)
}
