package tests

import (
	"math"
	"testing"

	"loop.example/g01358/impl"
)

// boxCall is a function of boxes, of which only the success is told.
type boxCall struct {
	name string
	call func(p impl.Poly, low, high complex64, steps int64) (isZero, ok bool)
}

func boxCalls() []boxCall {
	return []boxCall{
		{"TurnsOfBox", func(p impl.Poly, low, high complex64, steps int64) (bool, bool) {
			turns, ok := impl.TurnsOfBox(p, low, high, steps)
			return sameFloat(turns, plusZero), ok
		}},
		{"RootsOfBox", func(p impl.Poly, low, high complex64, steps int64) (bool, bool) {
			count, ok := impl.RootsOfBox(p, low, high, steps)
			return count == 0, ok
		}},
		{"FourBoxes", func(p impl.Poly, low, high complex64, steps int64) (bool, bool) {
			counts, ok := impl.FourBoxes(p, low, high, steps)
			return len(counts) == 0, ok
		}},
		{"NarrowBox not at all", func(p impl.Poly, low, high complex64, steps int64) (bool, bool) {
			left, right, ok := impl.NarrowBox(p, low, high, steps, 0)
			return samePair(left, 0) && samePair(right, 0), ok
		}},
		{"NarrowBox once", func(p impl.Poly, low, high complex64, steps int64) (bool, bool) {
			left, right, ok := impl.NarrowBox(p, low, high, steps, 1)
			return samePair(left, 0) && samePair(right, 0), ok
		}},
	}
}

// TestWrongBoxesFail has polynomials whose values are finite and not 0.
func TestWrongBoxesFail(t *testing.T) {
	small := polyOf(complex(-1, -0.5), 0x1p-100)
	for _, c := range boxCalls() {
		wantFail := func(what string, p impl.Poly, low, high complex64, steps int64) {
			t.Helper()
			if isZero, ok := c.call(p, low, high, steps); ok || !isZero {
				t.Errorf("%s of %s: it must fail", c.name, what)
			}
		}
		line, low, high := polyOf(-1, 1), complex64(complex(-4, -4.5)), complex64(complex(4, 4))
		for _, steps := range []int64{4, 5, impl.MaxTurns - 1, impl.MaxTurns} {
			if _, ok := c.call(line, low, high, steps); !ok {
				t.Errorf("%s with %d steps fails", c.name, steps)
			}
		}
		for _, steps := range []int64{3, 0, -1, -4, impl.MaxTurns + 1, math.MaxInt64, math.MinInt64} {
			wantFail(plain(steps, " steps"), line, low, high, steps)
		}
		for _, p := range noRootPolys() {
			wantFail(plain(p), p, low, high, 8)
		}
		for _, b := range noBoxes() {
			wantFail(plain(b), small, b.low, b.high, 8)
			wantFail(plain(b), line, b.low, b.high, 8)
		}
	}
}

func TestTurnsOfBox(t *testing.T) {
	cases := []struct {
		p         impl.Poly
		low, high complex64
		steps     int64
		want      float32
	}{
		{polyOf(-1, 1), complex(-4, -4), complex(4, 4), 16, 1}, {polyOf(-1, 1), complex(-4, -4), complex(4, 4), 4, 1}, {polyOf(-1, 1), complex(2, -4), complex(4, 4), 16, 0},
		{polyOf(-1, 1), complex(0.5, -0.25), complex(1.25, 0.125), 8, 1}, {polyOf(-1, 1), complex(-4, -4), complex(0.75, 4), 8, 0},
		{two(), complex(-4, -4), complex(4, 4.5), 32, 2}, {two(), complex(1.5, -4), complex(4, 4.5), 32, 1}, {two(), complex(-4, -4), complex(1.5, 4.5), 32, 1},
		{polyOf(complex(0, -1), complex(3, 4)), complex(-4, -4), complex(4, 4), 16, 1}, {power(3, 1), complex(-1, -1), complex(1, 1), 16, 3}, {power(16, complex(-1, 2)), complex(-1, -1), complex(1, 1), impl.MaxTurns, 16},
		{withRoots(0, complex(0, 1), complex(-0.5, -0.5), 5), complex(-1, -1), complex(1, 2), 50, 3},
		// With so few steps, the values turn too far from point to point.
		{power(16, 1), complex(-1, -1), complex(1, 1), 4, 0}, {power(12, 1), complex(-1, -1), complex(1, 1), 4, -4},
	}
	for _, c := range cases {
		got, ok := impl.TurnsOfBox(c.p, c.low, c.high, c.steps)
		if !ok || !(math.Abs(float64(got-c.want)) < 1e-5) {
			t.Errorf("TurnsOfBox of %v from %v to %v: got %v, %v, want %v", c.p, c.low, c.high, got, ok, c.want)
		}
	}
}

// TestRootsOnTheBorder has values of 0 at corners and at other points.
func TestRootsOnTheBorder(t *testing.T) {
	low, high := complex64(complex(-4, -4)), complex64(complex(4, 4))
	at := []complex64{low, high, complex(4, -4), complex(-4, 4), complex(-4, 0), complex(4, 0), complex(0, -4), complex(0, 4), complex(4, 3.5), complex(-3.5, 4)}
	for _, z := range at {
		for _, p := range []impl.Poly{withRoots(z), withRoots(1, z), withRoots(z, z, z)} {
			turns, ok := impl.TurnsOfBox(p, low, high, 16)
			wantNoNumber(t, plain("TurnsOfBox with the root ", z), turns, ok)
			count, ok := impl.RootsOfBox(p, low, high, 16)
			wantNoInteger(t, plain("RootsOfBox with the root ", z), count, ok)
		}
	}
	// Between two points, values have opposite signs, which is half a turn to
	// the left: so it counts as one that is inside.
	for _, z := range []complex64{complex(4, 0.125), complex(-4, -3.875), complex(1.1, 4), complex(0.3, -4)} {
		count, ok := impl.RootsOfBox(withRoots(z), low, high, 16)
		wantInteger(t, plain("RootsOfBox with the root ", z), count, ok, 1)
	}
	// One just outside of the border does not.
	for _, z := range []complex64{complex(4.01, 0.125), complex(-4.01, -3.875), complex(1.1, 4.01), complex(0.3, -4.01)} {
		count, ok := impl.RootsOfBox(withRoots(z), low, high, 16)
		wantInteger(t, plain("RootsOfBox with the root ", z), count, ok, 0)
	}
}

// halfTurn is a polynomial of which TurnsOfBox tells just 0.5: where the border
// comes to its root, the quotient of values is so small that it is 0.
func halfTurn() (impl.Poly, sides) {
	return polyOf(0x1p-60, 1), sides{-0x1p97, complex(0, 0x1p12)}
}

func TestJustHalves(t *testing.T) {
	p, b := halfTurn()
	turns, ok := impl.TurnsOfBox(p, b.low, b.high, 4)
	wantNumber(t, "half a turn", turns, ok, 0.5)
	count, ok := impl.RootsOfBox(p, b.low, b.high, 4)
	wantInteger(t, "the roots of half a turn", count, ok, 1)
	// The next lesser number and 0.5 make 1 as a 32-bit number, and the one
	// before does not.
	p.Terms[0] = complex(0x1p-60, 1.8726e-7*0x1p-60)
	turns, ok = impl.TurnsOfBox(p, b.low, b.high, 4)
	wantNumber(t, "a bit less than half a turn", turns, ok, 0.5-0x1p-25)
	count, ok = impl.RootsOfBox(p, b.low, b.high, 4)
	wantInteger(t, "the roots of a bit less than half a turn", count, ok, 1)
	p.Terms[0] = complex(0x1p-60, 2*1.8726e-7*0x1p-60)
	turns, ok = impl.TurnsOfBox(p, b.low, b.high, 4)
	wantNumber(t, "two bits less than half a turn", turns, ok, 0.5-0x1p-24)
	count, ok = impl.RootsOfBox(p, b.low, b.high, 4)
	wantInteger(t, "the roots of two bits less than half a turn", count, ok, 0)
}

func TestRootsOfBox(t *testing.T) {
	cases := []struct {
		p         impl.Poly
		low, high complex64
		steps     int64
		want      int64
	}{
		{two(), complex(-4, -4), complex(4, 4.5), 32, 2}, {two(), complex(1.5, -4), complex(4, 4.5), 32, 1}, {two(), complex(-4, -4), complex(0.5, 4.5), 32, 0},
		{ones(17), complex(-2, -2), complex(2, 2), impl.MaxTurns, 16}, {ones(17), complex(-2, -2.1), complex(2, 0.01), impl.MaxTurns, 8},
		{power(16, 1), complex(-1, -1), complex(1, 1), 4, 0}, {withRoots(1, 1, 1, 5), complex(0, -1), complex(2, 1), 16, 3},
	}
	for _, c := range cases {
		got, ok := impl.RootsOfBox(c.p, c.low, c.high, c.steps)
		wantInteger(t, plain("RootsOfBox of ", c.p, " from ", c.low, " to ", c.high), got, ok, c.want)
	}
	got, ok := impl.RootsOfBox(power(12, 1), complex(-1, -1), complex(1, 1), 4)
	wantNoInteger(t, "RootsOfBox of turns to the right", got, ok)
	// So near to a root that is there twice, values are rounded so much that
	// they turn 3 times.
	double := withRoots(complex(1, -1), complex(1, -1))
	low, high := complex64(complex(1-3*0x1p-18, -1-0x1p-18)), complex64(complex(1+3*0x1p-18, -1+2*0x1p-18))
	turns, ok := impl.TurnsOfBox(double, low, high, 5)
	wantNumber(t, "more turns than roots", turns, ok, 3)
	got, ok = impl.RootsOfBox(double, low, high, 5)
	wantNoInteger(t, "RootsOfBox of more turns than roots", got, ok)
	got, ok = impl.RootsOfBox(power(2, 1), 0x1p70, complex(0x1p71, 1), 4)
	wantNoInteger(t, "RootsOfBox of values that are not finite", got, ok)
	// From point to point, values become greater by more than any 32-bit number.
	got, ok = impl.RootsOfBox(polyOf(complex(0, 0x1p-100), 1), 0, complex(0x1p60, 0x1p60), 4)
	wantNoInteger(t, "RootsOfBox of quotients that are not finite", got, ok)
}

func TestFourBoxes(t *testing.T) {
	cases := []struct {
		p         impl.Poly
		low, high complex64
		steps     int64
		want      []int64
	}{
		{polyOf(-1, 1), complex(-4, -4.5), complex(4, 4), 16, []int64{0, 0, 0, 1}},
		{polyOf(complex(1, 1), 1), complex(-4, -4), complex(4, 4), 16, []int64{1, 0, 0, 0}},
		{polyOf(complex(-1, 1), 1), complex(-4, -4), complex(4, 4), 16, []int64{0, 1, 0, 0}},
		{polyOf(complex(1, -1), 1), complex(-4, -4), complex(4, 4), 16, []int64{0, 0, 1, 0}},
		{withRoots(complex(-1, -1), complex(1, 1), complex(2, 1), complex(1, -3), 9), complex(-4, -4), complex(4, 4), 32, []int64{1, 1, 0, 2}},
		// On the middle, but not at a point: both boxes have it.
		{polyOf(complex(0, -1), 1), complex(-4, -4), complex(4, 4), 5, []int64{0, 0, 1, 1}},
		{polyOf(1, 1), complex(-4, -4), complex(4, 4), 5, []int64{1, 0, 1, 0}},
		{polyOf(9, 1), complex(-4, -4), complex(4, 4), 4, []int64{0, 0, 0, 0}},
		{polyOf(-3, 1), complex(-0x1p127, minusGreat/2), complex(0x1p126, greatest/4), 4, []int64{0, 0, 0, 1}},
	}
	for _, c := range cases {
		got, ok := impl.FourBoxes(c.p, c.low, c.high, c.steps)
		wantIntegers(t, plain("FourBoxes of ", c.p, " from ", c.low, " to ", c.high), got, ok, c.want...)
	}
	wrong := []struct {
		p         impl.Poly
		low, high complex64
	}{
		// The middle itself, and a point between it and a side.
		{polyOf(0, 1), complex(-4, -4), complex(4, 4)}, {polyOf(-1, 1), complex(-4, -4), complex(4, 4)}, {polyOf(complex(0, 3), 1), complex(-4, -4), complex(4, 4)},
		// There is no number between both corners.
		{polyOf(0, 1), complex(1, 1), complex(afterOne, 2)}, {polyOf(0, 1), complex(1, 1), complex(2, afterOne)}, {polyOf(1, 1), complex(0, 1), complex(least, 2)},
		// The sum of both corners is not finite, although the middle would be.
		{polyOf(1, 0x1p-100), complex(greatest/2, 0), complex(greatest, 1)}, {polyOf(1, 0x1p-100), complex(0, minusGreat), complex(1, minusGreat*0.75)},
		// One of the boxes has turns to the right.
		{power(12, 1), complex(-1, -1), complex(3, 3)},
	}
	for _, c := range wrong {
		got, ok := impl.FourBoxes(c.p, c.low, c.high, 4)
		wantNoIntegers(t, plain("FourBoxes of ", c.p, " from ", c.low, " to ", c.high), got, ok)
	}
}

func TestNarrowBox(t *testing.T) {
	line, low, high := polyOf(-1, 1), complex64(complex(-4, -4.5)), complex64(complex(4, 4))
	cases := []struct {
		p     impl.Poly
		b     sides
		times int64
		want  sides
	}{
		{line, sides{low, high}, 0, sides{low, high}},
		{line, sides{low, high}, 1, sides{complex(0, -0.25), complex(4, 4)}},
		{line, sides{low, high}, 2, sides{complex(0, -0.25), complex(2, 1.875)}},
		// On the middle: the former one of both boxes is taken.
		{line, sides{low, high}, 3, sides{complex(0, -0.25), complex(1, 0.8125)}},
		{polyOf(0, 1), sides{complex(-1, -2), complex(3, 1)}, 1, sides{complex(-1, -0.5), complex(1, 1)}},
		{withRoots(2, -3), sides{complex(-4, -4.5), complex(4, 4)}, 1, sides{complex(-4, -0.25), complex(0, 4)}},
		{withRoots(complex(2, -3), -3), sides{complex(-4, -4.5), complex(4, 4)}, 1, sides{complex(0, -4.5), complex(4, -0.25)}},
		// No root is needed for no times, and zeros keep their signs.
		{polyOf(9, 1), sides{complex(minusZero, minusZero), complex(4, 4)}, 0, sides{complex(minusZero, minusZero), complex(4, 4)}},
		{polyOf(complex(-1, -1), 1), sides{complex(minusZero, minusZero), complex(4, 4.5)}, 1, sides{complex(minusZero, minusZero), complex(2, 2.25)}},
	}
	for _, c := range cases {
		left, right, ok := impl.NarrowBox(c.p, c.b.low, c.b.high, 16, c.times)
		what := plain("NarrowBox of ", c.p, " and ", c.b, " ", c.times, " times")
		wantValue(t, what, left, ok, c.want.low)
		wantValue(t, what, right, ok, c.want.high)
	}
	wrong := []struct {
		p     impl.Poly
		times int64
	}{{line, -1}, {line, 21}, {line, math.MaxInt64}, {line, math.MinInt64}, {polyOf(9, 1), 1}, {polyOf(9, 1), 20}, {polyOf(complex(0, 0.25), 1), 1}}
	for _, c := range wrong {
		left, right, ok := impl.NarrowBox(c.p, low, high, 16, c.times)
		what := plain("NarrowBox of ", c.p, " ", c.times, " times")
		wantNoValue(t, what, left, ok)
		wantNoValue(t, what, right, ok)
	}
}

// TestNarrowBoxAgainAndAgain goes down to the greatest number of times.
func TestNarrowBoxAgainAndAgain(t *testing.T) {
	z := complex64(complex(0.7112, -0.3371))
	p := withRoots(z, complex(3, 2.9), complex(2.2, 3.3))
	low, high := complex64(complex(-4, -4.5)), complex64(complex(4.1, 4.3))
	for times := range int64(21) {
		left, right, ok := impl.NarrowBox(p, low, high, 20, times)
		if !ok || real(left) > real(z) || real(right) < real(z) || imag(left) > imag(z) || imag(right) < imag(z) {
			t.Errorf("NarrowBox %d times: from %v to %v, %v", times, left, right, ok)
		}
		wide := 8.1 / math.Exp2(float64(times))
		if math.Abs(float64(real(right-left))/wide-1) > 0.1 {
			t.Errorf("NarrowBox %d times: from %v to %v is not as wide as %v", times, left, right, wide)
		}
	}
}
