package tests

import (
	"testing"

	"loop.example/g01358/impl"
)

func TestIsSeries(t *testing.T) {
	for n := 1; n <= impl.MaxSeries; n++ {
		if !impl.IsSeries(make([]complex64, n)) || !impl.IsSeries(countUp(1, n)) || !impl.IsSeries(repeated(complex(greatest, minusGreat), n)) {
			t.Errorf("%d terms are a series", n)
		}
	}
	for _, a := range noSeries(1) {
		if impl.IsSeries(a) {
			t.Errorf("%v is no series", a)
		}
	}
}

func TestMulSeries(t *testing.T) {
	const far = 0x1p24
	wantOfTwo(t, "MulSeries", impl.MulSeries, 1, []seriesTriple{
		{[]complex64{complex(1, 2)}, []complex64{complex(3, -1)}, []complex64{complex(5, 5)}},
		{[]complex64{1, 1}, []complex64{1, 1}, []complex64{1, 2}},
		{[]complex64{1, 2, 3}, []complex64{4, 5, 6}, []complex64{4, 13, 28}},
		{[]complex64{0, complex(0, 1), 0}, []complex64{0, complex(0, 1), 7}, []complex64{0, 0, -1}},
		{repeated[complex64](1, impl.MaxSeries), repeated[complex64](1, impl.MaxSeries), countUp(1, impl.MaxSeries)},
		// What would be behind the last term is left out, even if it is not finite.
		{[]complex64{1, complex(greatest, 0)}, []complex64{1, 0}, []complex64{1, complex(greatest, 0)}},
		{[]complex64{0, complex(greatest, 0)}, []complex64{0, complex(greatest, 0)}, []complex64{0, 0}},
		// Sums go in the order of the terms of a, and begin with +0.
		{[]complex64{far, 1, 1}, []complex64{1, 1, 1}, []complex64{far, far, far}},
		{[]complex64{1, 1, far}, []complex64{1, 1, 1}, []complex64{1, 2, far + 2}},
		{[]complex64{1, 1, 1}, []complex64{far, 1, 1}, []complex64{far, far, far + 2}},
		{[]complex64{minusBoth}, []complex64{1}, []complex64{0}},
		{[]complex64{complex(minusZero, 3)}, []complex64{complex(2, minusZero)}, []complex64{complex(0, 6)}},
	}, [][2][]complex64{
		{{complex(greatest, 0)}, {2}}, {{1, complex(greatest, 0)}, {1, complex(greatest, 0)}}, {{1, complex(0, minusGreat)}, {2, 0}},
		// A sum that would be finite in another order.
		{{complex(greatest, 0), complex(greatest, 0), complex(minusGreat, 0)}, {1, 1, 1}},
	})
}

func TestInverseSeries(t *testing.T) {
	third := complex(by(1, 3), 0)
	ninth := complex(by(real(third), 3), 0)
	wantSeries(t, "InverseSeries", impl.InverseSeries, 1, []seriesPair{
		{[]complex64{1, -1}, []complex64{1, 1}},
		{[]complex64{2}, []complex64{0.5}}, {[]complex64{complex(0, 2)}, []complex64{complex(0, -0.5)}},
		{filled(impl.MaxSeries, 1, -1), repeated[complex64](1, impl.MaxSeries)},
		// (1 - x)^2.
		{filled(impl.MaxSeries, 1, -2, 1), countUp(1, impl.MaxSeries)},
		{repeated[complex64](1, impl.MaxSeries), filled(impl.MaxSeries, 1, -1)},
		{[]complex64{3, -1, 0}, []complex64{third, ninth, complex(by(real(ninth), 3), 0)}},
		{[]complex64{complex(0, 1), 1, 0}, []complex64{complex(0, -1), 1, complex(0, 1)}},
		{[]complex64{complex(0x1p100, 0), 0x1p100}, []complex64{complex(0x1p-100, 0), complex(-0x1p-100, 0)}},
		{[]complex64{complex(greatest, 0)}, []complex64{complex(by(1, greatest), 0)}},
		// The sum goes from the lowest term of a on: 3 and 2^25 are 2^25 + 4.
		{[]complex64{1, 1, 2, -0x1p25}, []complex64{1, -1, -1, 0x1p25 + 4}},
		// 0 less a sum of +0 is +0.
		{[]complex64{1, 0, 0}, []complex64{1, 0, 0}}, {[]complex64{1, minusBoth}, []complex64{1, 0}},
		{[]complex64{-1, 0}, []complex64{complex(-1, minusZero), complex(0, minusZero)}},
		{[]complex64{complex(0, 1), 0}, []complex64{complex(0, -1), 0}},
	}, [][]complex64{
		{0}, {minusBoth}, {complex(0, minusZero), 1}, {complex(minusZero, 0), 1, 1}, {0, 1}, filled(impl.MaxSeries, 0, 1),
		{complex(least, 0)}, {complex(0, minusLeast), 1}, {complex(0x1p-100, 0), 1}, {1, 0x1p70, 0}, {1, complex(greatest, 0), complex(greatest, 0)},
	})
}

func TestDivSeries(t *testing.T) {
	// Inverses are rounded before the product is.
	tenth := by(1, 41)
	rounded := complex(tenth*41, 0)
	if rounded == 1 {
		t.Fatalf("41 divided by 41 in two steps is 1")
	}
	wantOfTwo(t, "DivSeries", impl.DivSeries, 1, []seriesTriple{
		{[]complex64{2, 0}, []complex64{1, 1}, []complex64{2, -2}},
		{[]complex64{6}, []complex64{2}, []complex64{3}}, {[]complex64{complex(0, 4)}, []complex64{2}, []complex64{complex(0, 2)}},
		{[]complex64{41}, []complex64{41}, []complex64{rounded}},
		{[]complex64{1, 2, 1}, []complex64{1, 1, 0}, []complex64{1, 1, 0}},
		{[]complex64{0, 0, 5}, []complex64{1, 7, 9}, []complex64{0, 0, 5}},
		{repeated[complex64](1, impl.MaxSeries), repeated[complex64](1, impl.MaxSeries), filled(impl.MaxSeries, 1)},
		{filled(impl.MaxSeries, 1), filled(impl.MaxSeries, 1, -1), repeated[complex64](1, impl.MaxSeries)},
	}, [][2][]complex64{
		{{1}, {0}}, {{0}, {minusBoth}}, {{1, 2}, {0, 1}}, {{0, 1}, {0, 1}},
		// The inverse of the latter, or the product with it, is not valid.
		{{0, 0}, {complex(least, 0), 1}}, {{0, 0, 0}, {1, 0x1p70, 0}}, {{complex(greatest, 0)}, {0.5}}, {{0x1p70, 0}, {1, 0x1p70}},
	})
}

func TestSlopeSeries(t *testing.T) {
	tenth := by(1, 10)
	wantSeries(t, "SlopeSeries", impl.SlopeSeries, 1, []seriesPair{
		{[]complex64{5, 3}, []complex64{3, 0}}, {[]complex64{7}, []complex64{0}}, {[]complex64{minusBoth}, []complex64{0}},
		{[]complex64{1, complex(2, -3), complex(0, 5)}, []complex64{complex(2, -3), complex(0, 10), 0}},
		{repeated[complex64](1, impl.MaxSeries), append(countUp(1, impl.MaxSeries-1), 0)},
		{[]complex64{0, 0, 0, complex(tenth, 0)}, []complex64{0, 0, complex(tenth*3, 0), 0}},
		// Numbers that are multiplied part by part keep the signs of their zeros.
		{[]complex64{0, minusBoth, complex(minusZero, 1)}, []complex64{minusBoth, complex(minusZero, 2), 0}},
		{[]complex64{0, complex(greatest, minusGreat)}, []complex64{complex(greatest, minusGreat), 0}},
	}, [][]complex64{{0, 0, complex(greatest, 0)}, {0, 0, 0, complex(0, minusGreat/2)}})
}

func TestRiseSeries(t *testing.T) {
	wantSeries(t, "RiseSeries", impl.RiseSeries, 1, []seriesPair{
		{[]complex64{4, 9}, []complex64{0, 4}}, {[]complex64{7}, []complex64{0}}, {[]complex64{minusBoth}, []complex64{0}},
		{[]complex64{1, complex(2, -3), complex(0, 5), 1}, []complex64{0, 1, complex(1, -1.5), complex(0, by(5, 3))}},
		{append(countUp(1, impl.MaxSeries-1), 99), append([]complex64{0}, repeated[complex64](1, impl.MaxSeries-1)...)},
		// 5 divided by 3, and by 5, are not 5 times a third, and times a fifth.
		{[]complex64{0, 0, 5, 0, 0}, []complex64{0, 0, 0, complex(by(5, 3), 0), 0}}, {[]complex64{0, 0, 0, 0, 7, 1}, []complex64{0, 0, 0, 0, 0, complex(by(7, 5), 0)}},
		{[]complex64{minusBoth, complex(minusZero, -1), 0}, []complex64{0, minusBoth, complex(minusZero, -0.5)}},
		{[]complex64{complex(greatest, minusLeast), complex(least, greatest), 1}, []complex64{0, complex(greatest, minusLeast), complex(0, greatest/2)}},
	}, nil)
}

func TestSeriesAt(t *testing.T) {
	cases := []struct {
		a       []complex64
		z, want complex64
	}{
		{[]complex64{1, 2}, 3, 7}, {[]complex64{1, 2, 0}, 3, 7}, {[]complex64{0, 0, 0}, 5, 0}, {[]complex64{minusBoth}, 9, minusBoth},
		{[]complex64{complex(greatest, least)}, complex(minusGreat, 1), complex(greatest, least)},
		{[]complex64{1, 0, 1}, complex(0, 1), 0}, {[]complex64{complex(1, 1), 2, complex(0, 3)}, complex(0, 1), complex(1, 0)},
		{repeated[complex64](1, impl.MaxSeries), 1, impl.MaxSeries}, {repeated[complex64](1, impl.MaxSeries), -1, 0}, {repeated[complex64](1, impl.MaxSeries), 2, 65535},
		// By nested steps, 1 is lost where it is added to 2^24, and not where it
		// is added to 2.
		{[]complex64{0, 1, 0x1p24}, 1, 0x1p24}, {[]complex64{0x1p24, 1, 1}, 1, 0x1p24 + 2},
		{[]complex64{5, minusBoth}, 0, 5}, {[]complex64{minusBoth, 0}, 1, 0},
	}
	for _, c := range cases {
		got, ok := impl.SeriesAt(c.a, c.z)
		wantValue(t, plain("SeriesAt ", c.a, " and ", c.z), got, ok, c.want)
	}
	for _, a := range noSeries(1) {
		got, ok := impl.SeriesAt(a, 1)
		wantNoValue(t, plain("SeriesAt ", a), got, ok)
	}
	for _, z := range append(infinities(), complex(greatest, 0), complex(0, minusGreat)) {
		got, ok := impl.SeriesAt([]complex64{1, 2}, z)
		wantNoValue(t, plain("SeriesAt two terms and ", z), got, ok)
	}
	for _, z := range infinities() {
		got, ok := impl.SeriesAt([]complex64{1}, z)
		wantNoValue(t, plain("SeriesAt one term and ", z), got, ok)
	}
}

func TestSeriesShared(t *testing.T) {
	for _, a := range [][]complex64{{7}, {1, 2}, {minusBoth, complex(0, 1), 3}, repeated[complex64](complex(1, -1), impl.MaxSeries)} {
		for _, n := range []int{0, 1, 2, 7, 8, 9, 255, impl.MaxNumbers} {
			points, want := stepsBy(complex(0.5, -0.25), n), make([]complex64, n)
			for i, z := range points {
				want[i], _ = impl.SeriesAt(a, z)
			}
			for _, workers := range counts() {
				got, ok := impl.SeriesShared(a, points, workers)
				wantList(t, plain("SeriesShared ", a, ", ", n, " points and ", workers), got, ok, want...)
			}
		}
	}
	fails := func(a, points []complex64, workers int64) {
		t.Helper()
		got, ok := impl.SeriesShared(a, points, workers)
		wantNoList(t, plain("SeriesShared ", a, ", ", points, " and ", workers), got, ok)
	}
	for _, workers := range wrongCounts() {
		for _, n := range []int{0, 1, 20} {
			fails([]complex64{1, 2}, stepsBy(1, n), workers)
		}
	}
	for _, workers := range counts() {
		fails([]complex64{1, 2}, stepsBy(0, impl.MaxNumbers+1), workers)
		fails([]complex64{1, 2}, stepsBy(0, 1000), workers)
		for _, a := range noSeries(1) {
			fails(a, nil, workers)
			fails(a, []complex64{1}, workers)
		}
		for _, z := range append(infinities(), complex(greatest, 0)) {
			fails([]complex64{1, 2}, []complex64{z}, workers)
			fails([]complex64{1, 2}, append(stepsBy(1, 30), z), workers)
			fails([]complex64{1, 2}, append([]complex64{z}, stepsBy(1, impl.MaxNumbers-1)...), workers)
		}
	}
}
