package tests

import (
	"testing"

	"loop.example/g01358/impl"
)

func TestAreRoots(t *testing.T) {
	for n := 1; n <= impl.MaxRoots; n++ {
		if !impl.AreRoots(stepsBy(1, n)) || !impl.AreRoots(repeated(minusBoth, n)) {
			t.Errorf("lists of %d can be roots", n)
		}
	}
	if !impl.AreRoots([]complex64{complex(greatest, minusGreat), complex(least, minusZero)}) {
		t.Errorf("numbers at the ends can be roots")
	}
	for _, list := range noRootLists() {
		if impl.AreRoots(list) {
			t.Errorf("%v can't be roots", list)
		}
	}
}

type stepCase struct {
	p    impl.Poly
	z    complex64
	want complex64
}

// wantSteps checks a step, which stays where the value is 0, and fails for
// what is no polynomial with roots or no number.
func wantSteps(t *testing.T, name string, call func(impl.Poly, complex64) (complex64, bool), cases []stepCase, wrong []pointCase) {
	t.Helper()
	great := power(2, complex(greatest, 0))
	zeros := []pointCase{
		{polyOf(-2, 1), 2}, {polyOf(2, -3, 1), 1}, {polyOf(1, 0, 1), complex(minusZero, 1)}, {power(16, 1), minusBoth}, {withRoots(repeated[complex64](1, 4)...), 1},
		{polyOf(0, 1), minusBoth}, {polyOf(0, 1), complex(minusZero, plusZero)}, {polyOf(0, 1), complex(plusZero, minusZero)}, {polyOf(minusBoth, 1), minusBoth},
		// The slope of this one is not finite, but is not taken.
		{great, 0}, {great, minusBoth},
	}
	for _, c := range zeros {
		cases = append(cases, stepCase{c.p, c.z, c.z})
	}
	for _, c := range cases {
		got, ok := call(c.p, c.z)
		wantValue(t, plain(name, " of ", c.p, " from ", c.z), got, ok, c.want)
	}
	// The value is finite, but that of the slope is not, on the way; and then,
	// only the slope of the slope is not.
	for _, first := range []complex64{0.5, 4} {
		wrong = append(wrong, pointCase{polyOf(first, -2.25*0x1p126, 1.5*0x1p126), 1.5})
	}
	if name != "SlopeOnce" {
		wrong = append(wrong, pointCase{polyOf(1, 0, 0, complex(greatest/4, 0)), 0x1p-60}, pointCase{polyOf(1, 0x1p-60, 0, complex(greatest/4, 0)), 0x1p-60})
	}
	wrong = append(wrong, pointCase{great, 0x1p-60}, pointCase{power(2, 1), 0x1p64}, pointCase{polyOf(1, complex(0, greatest)), 2})
	for _, x := range infinities() {
		wrong = append(wrong, pointCase{polyOf(-2, 1), x})
	}
	for _, p := range noRootPolys() {
		wrong = append(wrong, pointCase{p, 0}, pointCase{p, 1})
	}
	for _, c := range wrong {
		got, ok := call(c.p, c.z)
		wantNoValue(t, plain(name, " of ", c.p, " from ", c.z), got, ok)
	}
}

// tooFar is a polynomial whose step from -2^104 is by the greatest number, so
// that it leads to one that is not finite.
func tooFar() impl.Poly {
	return polyOf(0x1p70+0x1p68, 0x1p-35+0x1p-58, 0x1p-140)
}

func TestSlopeOnce(t *testing.T) {
	wantSteps(t, "SlopeOnce", impl.SlopeOnce, []stepCase{
		{polyOf(0, 0, 1), 1, 0.5},
		{polyOf(-2, 1), 5, 2},
		{polyOf(-2, 1), complex(5, 7), 2},
		{polyOf(1, 0, 1), 1, 0},
		{polyOf(1, 0, 1), complex(1, 1), complex(0.25, 0.75)},
		{polyOf(complex(0, -4), complex(0, 2)), 1, 2},
		{polyOf(-1, 0, 1), complex(0, 1), 0},
		{power(16, 1), 16, 15},
		{ones(17), -1, complex(-1+1.0/8, 0)},
	}, []pointCase{
		// Slopes of 0.
		{polyOf(1, 0, 1), 0}, {polyOf(-1, 0, 1), minusBoth}, {polyOf(1, 0, 0, 1), 0}, {polyOf(3, -3, 0, 1), 1}, {polyOf(2, -2, 1), 1},
		// A quotient, and a difference, that are not finite.
		{polyOf(1, complex(least, 0)), 0}, {polyOf(complex(0, 1), 0x1p-128), 0}, {tooFar(), -0x1p104},
		// A value of the slope that is not finite.
		{polyOf(1, 0, complex(greatest/2, 0)), 2},
	})
}

func TestHalleyOnce(t *testing.T) {
	twoThirds := float32(2) / 3
	wantSteps(t, "HalleyOnce", impl.HalleyOnce, []stepCase{
		{polyOf(0, 0, 1), 1, complex(1-twoThirds, 0)},
		{polyOf(-2, 1), 5, 2},
		{polyOf(-2, 1), complex(5, 7), 2},
		// v is -2, s is 2 i and t is 2: -8 i by -8 + 4.
		{polyOf(-1, 0, 1), complex(0, 1), complex(0, -1)},
		// v is -4, s is 2 and t is 2: -16 by 8 + 8.
		{polyOf(-5, 0, 1), 1, 2},
		// v is 2 i, s is 2 + 2 i and t is 2: -8 + 8 i by 12 i.
		{polyOf(0, 0, 1), complex(1, 1), complex(1-twoThirds, 1-twoThirds)},
		// A slope of 0 is not the end, if its slope is not.
		{polyOf(1, 0, 1), 0, 0}, {polyOf(-1, 0, 1), minusBoth, minusBoth},
	}, []pointCase{
		{polyOf(1, 0, 0, 1), 0}, {polyOf(3, 0, 1), 1}, {power(1, 0x1p-80), 1},
		{polyOf(1, complex(least, 0)), 0}, {polyOf(complex(0, 1), 0x1p-128), 0}, {polyOf(0x1p70, 0x1p70), 1},
	})
}

func TestLaguerreOnce(t *testing.T) {
	wantSteps(t, "LaguerreOnce", impl.LaguerreOnce, []stepCase{
		{polyOf(-2, 1), 5, 2},
		{polyOf(-2, 1), 0, 2},
		{polyOf(complex(0, -4), complex(0, 2)), 0, 2},
		// a is -1.5 and r is 0.5: the latter one of both is greater.
		{polyOf(2, -3, 1), 0, 1},
		{polyOf(-2, 1, 1), 0, 1},
		// a is 0.5 and r is 1.5: the former one is.
		{polyOf(-2, -1, 1), 0, -1},
		// a is 0: both are equally great, and it is a plus r.
		{polyOf(-1, 0, 1), 0, -1},
		{polyOf(-4, 0, 1), 0, -2},
		{polyOf(1, 0, 1), 0, complex(0, 1)},
		{polyOf(3, -3, 0, 1), 0, 1},
		{polyOf(68, -68, 0, 27, -8), 0, 1},
	}, []pointCase{
		// a and r are 0.
		{polyOf(1, 0, 0, 1), 0}, {polyOf(-1, 0, 0, 0, 1), minusBoth},
		// Quotients that are not finite, one after another, and a square.
		{polyOf(complex(least, 0), 1, 1), 0}, {polyOf(complex(least, 0), 0, 1), 0}, {polyOf(1, 0x1p-130), 0}, {polyOf(1, 0x1p70, 1), 0}, {polyOf(1, 0x1p70), 0},
	})
}

func TestPolishRoot(t *testing.T) {
	cases := []struct {
		p     impl.Poly
		z     complex64
		times int64
		want  complex64
	}{
		{polyOf(-2, 1), 5, 0, 5}, {polyOf(-2, 1), 5, 1, 2}, {polyOf(-2, 1), 5, impl.MaxTurns, 2},
		{polyOf(1, 0, 1), minusBoth, 0, minusBoth}, {polyOf(1, 0, 1), 1, 1, 0},
		{polyOf(0, 0, 1), 1, 3, 0.125}, {polyOf(0, 0, 1), 1, impl.MaxTurns, 0x1p-64}, {polyOf(0, 0, 1), complex(-1, 1), 2, complex(-0.25, 0.25)},
		{power(2, complex(greatest, 0)), complex(7, minusZero), 0, complex(7, minusZero)},
	}
	for _, c := range cases {
		got, ok := impl.PolishRoot(c.p, c.z, c.times)
		wantValue(t, plain("PolishRoot of ", c.p, " from ", c.z, " ", c.times, " times"), got, ok, c.want)
	}
	// The second step is from 0, where the slope is 0.
	got, ok := impl.PolishRoot(polyOf(1, 0, 1), 1, 2)
	wantNoValue(t, "a second step that fails", got, ok)
	for _, times := range []int64{-1, impl.MaxTurns + 1, -1 << 63, 1<<63 - 1} {
		got, ok := impl.PolishRoot(polyOf(-2, 1), 2, times)
		wantNoValue(t, "PolishRoot with wrong times", got, ok)
	}
	for _, p := range noRootPolys() {
		got, ok := impl.PolishRoot(p, 1, 0)
		wantNoValue(t, "PolishRoot of what has no roots", got, ok)
	}
	for _, x := range infinities() {
		got, ok := impl.PolishRoot(polyOf(-2, 1), x, 0)
		wantNoValue(t, "PolishRoot of no number", got, ok)
	}
}

func TestMissAt(t *testing.T) {
	cases := []struct {
		p    impl.Poly
		z    complex64
		want float32
	}{
		{polyOf(-2, 1), 2, plusZero}, {polyOf(-2, 1), 5, float32(3) / 7}, {polyOf(-1, 0, 1), 3, float32(8) / 10}, {polyOf(1, 1), 0, 1}, {polyOf(1, 1), minusBoth, 1},
		{polyOf(complex(3, 4), 1), 0, 1}, {polyOf(0, 1), complex(3, 4), 1}, {polyOf(0, complex(0, -2), 1), complex(3, 4), float32(impl.LongOf(complex(1, 18))) / 35},
		{ones(17), 1, 1}, {ones(17), 2, 1}, {ones(17), -1, float32(1) / 17}, {polyOf(1, 2, 3), complex(0, 2), float32(impl.LongOf(complex(-11, 4))) / 17},
		// From left to right, no product is infinite here, or 0.
		{polyOf(1, 0, 0x1p-100), 0x1p70, 1}, {power(3, 0x1p100), 0x1p-60, 1},
	}
	for _, c := range cases {
		got, ok := impl.MissAt(c.p, c.z)
		wantNumber(t, plain("MissAt ", c.z, " of ", c.p), got, ok, c.want)
	}
	wrong := []pointCase{
		// The sum is 0, and infinite.
		{polyOf(0, 1), 0}, {power(16, 1), minusBoth}, {power(2, 1), complex(least, 0)}, {polyOf(complex(greatest, 0), complex(greatest, 0)), -1}, {polyOf(0, 0x1p-100), complex(greatest, greatest)},
		{polyOf(complex(greatest, greatest), 1), 0}, {power(2, 1), 0x1p64},
		// The sum is finite, but the value is not, on the way.
		{polyOf(1, complex(0.75*greatest, 0), complex(0.75*greatest, 0)), 0.5},
	}
	for _, p := range noRootPolys() {
		wrong = append(wrong, pointCase{p, 1})
	}
	for _, x := range infinities() {
		wrong = append(wrong, pointCase{polyOf(-2, 1), x})
	}
	for _, c := range wrong {
		got, ok := impl.MissAt(c.p, c.z)
		wantNoNumber(t, plain("MissAt ", c.z, " of ", c.p), got, ok)
	}
}

func TestMissOfRoots(t *testing.T) {
	two := polyOf(2, -3, 1)
	cases := []struct {
		list []complex64
		want float32
	}{
		{[]complex64{1, 2}, plusZero}, {[]complex64{1}, plusZero}, {[]complex64{3}, float32(2) / 20}, {[]complex64{1, 3}, float32(2) / 20}, {[]complex64{3, 1, 2}, float32(2) / 20},
		{[]complex64{3, 0, 2}, 1}, {append(stepsBy(0, impl.MaxRoots-1), 2), 1}, {[]complex64{3, -1}, 1},
	}
	for _, c := range cases {
		got, ok := impl.MissOfRoots(two, c.list)
		wantNumber(t, plain("MissOfRoots of ", c.list), got, ok, c.want)
	}
	for _, list := range append(noRootLists(), []complex64{1, 0x1p64}, []complex64{0x1p64, 1}) {
		got, ok := impl.MissOfRoots(two, list)
		wantNoNumber(t, plain("MissOfRoots of ", list), got, ok)
	}
	got, ok := impl.MissOfRoots(polyOf(0, 1), []complex64{1, 0, 2})
	wantNoNumber(t, "MissOfRoots where a sum is 0", got, ok)
}
