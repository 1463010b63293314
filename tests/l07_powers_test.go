package tests

import (
	"testing"

	"loop.example/g01358/impl"
)

// notZeroFirst and notOneFirst are series whose first term is nearly what it
// must be.
func notZeroFirst() [][]complex64 {
	lists := [][]complex64{}
	for _, first := range []complex64{1, -1, complex(least, 0), complex(0, minusLeast), complex(minusZero, least), complex(0, 1)} {
		lists = append(lists, []complex64{first}, []complex64{first, 1}, filled(impl.MaxSeries, first, 1))
	}
	return lists
}

func notOneFirst() [][]complex64 {
	lists := [][]complex64{}
	for _, first := range []complex64{0, minusBoth, -1, 2, complex(0, 1), complex(afterOne, 0), complex(0.99999994, 0), complex(1, least), complex(1, minusLeast), complex(1, 1)} {
		lists = append(lists, []complex64{first}, []complex64{first, 1}, filled(impl.MaxSeries, first, 1))
	}
	return lists
}

// shares has 1 divided by 1, 2 and so on up to k, in the place of each k.
func shares(n int) []complex64 {
	list := []complex64{1}
	for k := 1; k < n; k++ {
		list = append(list, complex(by(real(list[k-1]), float32(k)), 0))
	}
	return list
}

func TestExpSeries(t *testing.T) {
	wantSeries(t, "ExpSeries", impl.ExpSeries, 0, []seriesPair{
		{[]complex64{0, 1, 0}, []complex64{1, 1, 0.5}}, {[]complex64{0}, []complex64{1}}, {[]complex64{minusBoth}, []complex64{1}}, {[]complex64{complex(minusZero, 0), 2}, []complex64{1, 2}},
		{filled(impl.MaxSeries), filled(impl.MaxSeries, 1)}, {filled(impl.MaxSeries, minusBoth, 1), shares(impl.MaxSeries)},
		{[]complex64{0, 0, 1, 0, 0}, []complex64{1, 0, 1, 0, 0.5}}, {[]complex64{0, 0, 0, 5}, []complex64{1, 0, 0, 5}},
		{[]complex64{0, complex(0, 1), 0, 0}, []complex64{1, complex(0, 1), -0.5, complex(0, -by(0.5, 3))}},
		// 2 + 3 / 2 by 2 terms, and 1 behind them.
		{[]complex64{0, 2, 3, 1}, []complex64{1, 2, 5, complex(by(10+12+3, 3), 0)}},
		{[]complex64{0, minusBoth}, []complex64{1, 0}},
		// The sum goes from the lowest term of a on.
		{[]complex64{0, 1, 0.5, 0x1p23}, []complex64{1, 1, 1, 8388609}},
		{[]complex64{0, complex(greatest, 0)}, []complex64{1, complex(greatest, 0)}},
	}, append(notZeroFirst(), [][]complex64{
		{0, complex(greatest, 0), 0}, {0, 0x1p64, 0},
		// Twice the term is not finite, even if it is divided by 2 again.
		{0, 0, complex(greatest, 0)}, {0, 0, complex(0, minusGreat)},
	}...))
}

func TestLogSeries(t *testing.T) {
	inTurns := []complex64{0}
	for k := 1; k < impl.MaxSeries; k++ {
		inTurns = append(inTurns, complex(by(float32(2*(k%2)-1), float32(k)), 0))
	}
	wantSeries(t, "LogSeries", impl.LogSeries, 1, []seriesPair{
		{[]complex64{1, 1, 0}, []complex64{0, 1, -0.5}}, {[]complex64{1}, []complex64{0}}, {[]complex64{complex(1, minusZero)}, []complex64{0}}, {[]complex64{complex(1, minusZero), 3}, []complex64{0, 3}},
		{filled(impl.MaxSeries, 1), filled(impl.MaxSeries)}, {filled(impl.MaxSeries, 1, 1), inTurns},
		{[]complex64{1, complex(0, 2), 0, 0}, []complex64{0, complex(0, 2), 2, complex(0, by(-8, 3))}},
		{[]complex64{1, 0, 3, 0, 0}, []complex64{0, 0, 3, 0, -4.5}},
		// (1 + x)^2 has twice the logarithm of 1 + x.
		{[]complex64{1, 2, 1, 0}, []complex64{0, 2, -1, complex(by(2, 3), 0)}},
	}, append(notOneFirst(), [][]complex64{
		{1, 0, complex(greatest, 0)}, {1, 0x1p64, 0}, {1, complex(0, 0x1p64), 0},
		// The last term of the quotient is left out, but must be finite.
		{1, 0x1p64}, {1, complex(greatest, 0)},
	}...))
}

func TestRootSeries(t *testing.T) {
	wantSeries(t, "RootSeries", impl.RootSeries, 1, []seriesPair{
		{[]complex64{1, 2}, []complex64{1, 1}}, {[]complex64{1}, []complex64{1}}, {[]complex64{complex(1, minusZero)}, []complex64{1}}, {[]complex64{complex(1, minusZero), 2}, []complex64{1, 1}},
		{filled(impl.MaxSeries, 1), filled(impl.MaxSeries, 1)}, {filled(impl.MaxSeries, 1, 2, 1), filled(impl.MaxSeries, 1, 1)},
		// The squares of 1 + x + x^2 and so on, and of 1 + i x.
		{countUp(1, impl.MaxSeries), repeated[complex64](1, impl.MaxSeries)}, {[]complex64{1, complex(0, 2), -1, 0}, []complex64{1, complex(0, 1), 0, 0}},
		{[]complex64{1, 1, 0, 0, 0}, []complex64{1, 0.5, -0.125, 0.0625, -0.0390625}},
		{[]complex64{1, 4, 10, 12, 9}, []complex64{1, 2, 3, 0, 0}},
		{[]complex64{1, minusBoth}, []complex64{1, minusBoth}}, {[]complex64{1, complex(0, minusZero)}, []complex64{1, complex(0, minusZero)}},
		{[]complex64{1, complex(least, minusLeast)}, []complex64{1, complex(0, minusZero)}}, {[]complex64{1, complex(least*3, 0)}, []complex64{1, complex(least*2, 0)}},
		{[]complex64{1, complex(greatest, minusGreat)}, []complex64{1, complex(greatest/2, minusGreat/2)}},
	}, append(notOneFirst(), [][]complex64{{1, complex(greatest, 0), 0}, {1, 0x1p66, 0}, {1, complex(0, 0x1p66), 0, 0}}...))
}

func TestPowerSeries(t *testing.T) {
	cases := []struct {
		a     []complex64
		power complex64
		want  []complex64
	}{
		{[]complex64{1, 1}, 3, []complex64{1, 3}}, {[]complex64{1, 1, 0}, 0.5, []complex64{1, 0.5, -0.125}}, {[]complex64{1, 1, 0}, -1, []complex64{1, -1, 1}},
		{[]complex64{1, 1, 0}, 2, []complex64{1, 2, 1}}, {[]complex64{1, 5}, complex(0, 1), []complex64{1, complex(0, 5)}}, {[]complex64{1, 1, 0}, complex(0, 2), []complex64{1, complex(0, 2), complex(-2, -1)}},
		{[]complex64{1}, 7, []complex64{1}}, {[]complex64{complex(1, minusZero)}, complex(greatest, minusGreat), []complex64{1}},
		{[]complex64{1, 1, 1}, 0, []complex64{1, 0, 0}}, {[]complex64{1, 1, 1}, minusBoth, []complex64{1, 0, 0}}, {filled(impl.MaxSeries, 1, 3), 0, filled(impl.MaxSeries, 1)},
		{[]complex64{1, 0x1p60}, 0x1p60, []complex64{1, 0x1p120}}, {filled(impl.MaxSeries, 1), complex(greatest, greatest), filled(impl.MaxSeries, 1)},
	}
	for _, c := range cases {
		got, ok := impl.PowerSeries(c.a, c.power)
		wantList(t, plain("PowerSeries ", c.a, " and ", c.power), got, ok, c.want...)
	}
	fails := func(a []complex64, power complex64) {
		t.Helper()
		got, ok := impl.PowerSeries(a, power)
		wantNoList(t, plain("PowerSeries ", a, " and ", power), got, ok)
	}
	for _, power := range []complex64{0, 1, 2, complex(0.5, -3)} {
		for _, a := range append(noSeries(1), notOneFirst()...) {
			fails(a, power)
		}
		fails([]complex64{1, 0x1p64}, power)
	}
	for _, power := range infinities() {
		fails([]complex64{1}, power)
		fails([]complex64{1, 1}, power)
	}
	// The products, or the exponent of these, are not valid.
	fails([]complex64{1, 0x1p60}, 0x1p70)
	fails([]complex64{1, 0x1p40, 0}, 0x1p40)
	fails([]complex64{1, 2}, complex(greatest, 0))
}

func TestComposeSeries(t *testing.T) {
	wantOfTwo(t, "ComposeSeries", impl.ComposeSeries, 0, []seriesTriple{
		{[]complex64{1, 2}, []complex64{0, 3}, []complex64{1, 6}}, {[]complex64{1, 2, 3}, []complex64{0, 1, 1}, []complex64{1, 2, 5}},
		{[]complex64{7}, []complex64{0}, []complex64{7}}, {[]complex64{minusBoth}, []complex64{minusBoth}, []complex64{minusBoth}}, {[]complex64{complex(greatest, least)}, []complex64{0}, []complex64{complex(greatest, least)}},
		{[]complex64{minusBoth, 1}, []complex64{0, 1}, []complex64{0, 1}}, {[]complex64{complex(minusZero, 3), 1}, []complex64{minusBoth, 2}, []complex64{complex(0, 3), 2}},
		{[]complex64{0, 0, 1, 0, 0}, []complex64{0, 1, 1, 0, 0}, []complex64{0, 0, 1, 2, 1}}, {[]complex64{1, 1, 1, 1}, []complex64{0, 0, complex(0, 1), 0}, []complex64{1, 0, complex(0, 1), 0}},
		{[]complex64{0, 1, 0, 1}, []complex64{0, complex(0, 1), 0, 0}, []complex64{0, complex(0, 1), 0, complex(0, -1)}},
		// x stays what it is, and 1 / (1 - x) of 2 x has the powers of 2.
		{countUp(1, impl.MaxSeries), filled(impl.MaxSeries, 0, 1), countUp(1, impl.MaxSeries)}, {filled(impl.MaxSeries, 0, 1), filled(impl.MaxSeries, 0, 5, 7), filled(impl.MaxSeries, 0, 5, 7)},
		{repeated[complex64](1, 5), filled(5, 0, 2), []complex64{1, 2, 4, 8, 16}},
		{repeated[complex64](4, impl.MaxSeries), filled(impl.MaxSeries), filled(impl.MaxSeries, 4)},
	}, [][2][]complex64{
		{{1}, {1}}, {{1, 2}, {complex(least, 0), 1}}, {{1, 2}, {complex(0, minusLeast), 0}}, {{0, 0}, {1, 0}}, {{0, 1, 0}, {complex(0, 1), 1, 0}},
		{{0, complex(greatest, 0)}, {0, 2}}, {{0, 0, 1}, {0, 0x1p64, 0}}, {{0, 0, 0, 1}, {0, complex(0, 0x1p50), 0, 0}},
		// Only a product on the way is not finite.
		{{0, 0, complex(greatest, 0), complex(minusGreat, 0)}, {0, 1, 2, 0}},
	})
}

func TestTurnSeries(t *testing.T) {
	catalan := []complex64{0, 1}
	for k := 2; k < impl.MaxSeries; k++ {
		catalan = append(catalan, complex(-real(catalan[k-1])*float32(4*k-6)/float32(k), 0))
	}
	wantSeries(t, "TurnSeries", impl.TurnSeries, 0, []seriesPair{
		{[]complex64{0, 2}, []complex64{0, 0.5}}, {[]complex64{minusBoth, 1}, []complex64{0, 1}}, {[]complex64{complex(0, minusZero), complex(0, 1)}, []complex64{0, complex(0, -1)}},
		{[]complex64{0, 3}, []complex64{0, complex(by(1, 3), 0)}}, {[]complex64{0, complex(greatest, 0)}, []complex64{0, complex(by(1, greatest), 0)}},
		{[]complex64{0, 1, 1, 0}, []complex64{0, 1, -1, 2}}, {filled(impl.MaxSeries, 0, 1), filled(impl.MaxSeries, 0, 1)}, {filled(9, 0, 1, 1), catalan[:9]},
		// x / (1 + x), and x / (1 - x).
		{[]complex64{0, 1, -1, 1, -1, 1, -1, 1}, append([]complex64{0}, repeated[complex64](1, 7)...)},
		{[]complex64{0, complex(0, 1), 1, 0}, []complex64{0, complex(0, -1), complex(0, -1), complex(0, -2)}},
		{[]complex64{0, 2, 0, 16}, []complex64{0, 0.5, 0, -1}},
		{[]complex64{0, -1, 0}, []complex64{0, complex(-1, minusZero), complex(0, minusZero)}},
	}, append(notZeroFirst(), [][]complex64{
		{0}, {minusBoth}, {0, 0}, {0, minusBoth}, {0, complex(0, minusZero), 1}, {minusBoth, 0, 1}, filled(impl.MaxSeries, 0, 0, 1),
		{0, complex(least, 0)}, {0, complex(0, minusLeast), 0}, {0, complex(least, 0), 1, 1}, {0, 1, 0x1p70, 0}, {0, 1, complex(greatest, 0), complex(greatest, 0)}, {0, 0x1p-64, 1},
	}...))
}
