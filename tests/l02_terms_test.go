package tests

import (
	"testing"

	"loop.example/g01358/impl"
)

func TestValidPoly(t *testing.T) {
	for _, p := range validPolys() {
		if !impl.ValidPoly(p) {
			t.Errorf("%v is valid", p)
		}
	}
	for _, p := range invalidPolys() {
		if impl.ValidPoly(p) {
			t.Errorf("%v is not valid", p)
		}
	}
}

func TestSamePoly(t *testing.T) {
	minusImag := complex(1, minusZero)
	cases := []struct {
		a, b impl.Poly
		want bool
	}{
		{polyOf(), polyOf([]complex64{}...), true}, {polyOf(), polyOf(0), false}, {polyOf(0), polyOf(), false},
		{polyOf(1, 2), polyOf(1, 2), true}, {polyOf(1, 2), polyOf(1), false}, {polyOf(1), polyOf(1, 2), false}, {polyOf(1, 0), polyOf(1), false},
		{polyOf(1, 2), polyOf(2, 1), false}, {polyOf(1, 2), polyOf(1, 3), false}, {polyOf(1, 2), polyOf(3, 2), false},
		{polyOf(complex(1, 2)), polyOf(complex(1, 3)), false}, {polyOf(complex(1, 2)), polyOf(complex(2, 2)), false},
		{polyOf(0), polyOf(complex(minusZero, plusZero)), false}, {polyOf(1), polyOf(minusImag), false}, {polyOf(minusImag), polyOf(minusImag), true},
		{polyOf(complex(nan, 1)), polyOf(complex(oddNaN, 1)), true}, {polyOf(complex(1, quietNaN)), polyOf(complex(1, nan)), true},
		{polyOf(complex(nan, 1)), polyOf(complex(nan, 2)), false}, {polyOf(complex(nan, 1)), polyOf(complex(1, nan)), false},
		{polyOf(complex(plusInf, 0)), polyOf(complex(plusInf, 0)), true}, {polyOf(complex(plusInf, 0)), polyOf(complex(minusInf, 0)), false},
		{polyOf(0, 0, 0), polyOf(0, 0, 0), true}, {ones(300), ones(300), true}, {ones(300), ones(299), false}, {ones(17), ones(18), false},
	}
	for _, c := range cases {
		if impl.SamePoly(c.a, c.b) != c.want || impl.SamePoly(c.b, c.a) != c.want {
			t.Errorf("SamePoly of %v and %v is not %v", c.a, c.b, c.want)
		}
	}
}

func TestPolyOf(t *testing.T) {
	minus := complex(minusZero, minusZero)
	cases := []struct{ list, want []complex64 }{
		{[]complex64{1, 2}, []complex64{1, 2}},
		{[]complex64{1, 2, 0, minus, 0}, []complex64{1, 2}},
		{[]complex64{0}, []complex64{0}},
		{[]complex64{minus}, []complex64{minus}},
		{[]complex64{minus, 0}, []complex64{minus}},
		{[]complex64{0, minus}, []complex64{0}},
		{[]complex64{minus, 0, complex(plusZero, minusLeast), minus}, []complex64{minus, 0, complex(plusZero, minusLeast)}},
		{[]complex64{complex(least, minusZero), 0}, []complex64{complex(least, minusZero)}},
		{repeated[complex64](3, impl.MaxTerms), repeated[complex64](3, impl.MaxTerms)},
		{append(repeated[complex64](3, impl.MaxTerms), 0), repeated[complex64](3, impl.MaxTerms)},
		{append(repeated[complex64](3, 5), make([]complex64, impl.MaxNumbers-5)...), repeated[complex64](3, 5)},
		{make([]complex64, impl.MaxNumbers), []complex64{0}},
	}
	for _, c := range cases {
		got, ok := impl.PolyOf(c.list)
		wantPoly(t, "PolyOf", got, ok, c.want...)
	}
	wrong := [][]complex64{
		nil, {}, repeated[complex64](1, impl.MaxTerms+1), append(make([]complex64, impl.MaxTerms), 1),
		make([]complex64, impl.MaxNumbers+1), append([]complex64{1}, make([]complex64, impl.MaxNumbers)...),
	}
	for _, x := range infinities() {
		wrong = append(wrong, []complex64{x}, []complex64{1, x, 0}, []complex64{x, 0})
	}
	for _, list := range wrong {
		got, ok := impl.PolyOf(list)
		wantNoPoly(t, "PolyOf", got, ok)
	}
}

func TestDegreeOf(t *testing.T) {
	cases := []struct {
		p    impl.Poly
		want int64
	}{
		{polyOf(0), -1}, {polyOf(complex(minusZero, minusZero)), -1}, {polyOf(complex(minusZero, plusZero)), -1},
		{polyOf(1), 0}, {polyOf(complex(0, least)), 0}, {polyOf(0, 1), 1}, {polyOf(1, 0, 1), 2}, {ones(impl.MaxTerms), impl.MaxTerms - 1},
	}
	for _, c := range cases {
		if got, ok := impl.DegreeOf(c.p); !ok || got != c.want {
			t.Errorf("the degree of %v is %d, %v", c.p, got, ok)
		}
	}
}

func TestAddPolys(t *testing.T) {
	minus := complex(minusZero, minusZero)
	cases := []struct{ a, b, want impl.Poly }{
		{polyOf(1, 1), polyOf(-1, 1), polyOf(0, 2)},
		{polyOf(1, complex(2, 3)), polyOf(4), polyOf(5, complex(2, 3))},
		{polyOf(4), polyOf(1, complex(2, 3)), polyOf(5, complex(2, 3))},
		{polyOf(1, 1), polyOf(-1, -1), polyOf(0)},
		{polyOf(1, 2, 3), polyOf(4, -2, -3), polyOf(5)},
		{polyOf(1, 2, complex(3, 1)), polyOf(4, -2, complex(-3, 1)), polyOf(5, 0, complex(0, 2))},
		{polyOf(5, 1), polyOf(0, -1), polyOf(5)},
		{polyOf(0), polyOf(0), polyOf(0)},
		{polyOf(0), polyOf(3, 4), polyOf(3, 4)},
		// Zeros with signs: a term that is missing counts as +0.
		{polyOf(minus), polyOf(0), polyOf(0)},
		{polyOf(minus), polyOf(minus), polyOf(minus)},
		{polyOf(minus, complex(1, minusZero)), polyOf(2), polyOf(2, complex(1, plusZero))},
		{polyOf(2), polyOf(2, complex(minusZero, 3)), polyOf(4, complex(plusZero, 3))},
		{polyOf(complex(1, minusZero)), polyOf(complex(-1, minusZero)), polyOf(complex(plusZero, minusZero))},
		// Rounding of each part, to even.
		{polyOf(complex(1, 16777216)), polyOf(complex(0x1p-24, 1)), polyOf(complex(1, 16777216))},
		{polyOf(complex(afterOne, 16777216)), polyOf(complex(0x1p-24, 3)), polyOf(complex(afterOne+0x1p-23, 16777220))},
		{polyOf(complex(least, leastNorm)), polyOf(complex(least, minusLeast)), polyOf(complex(2*least, greatSub))},
		{ones(impl.MaxTerms), ones(impl.MaxTerms), polyOf(repeated[complex64](2, impl.MaxTerms)...)},
	}
	for _, c := range cases {
		got, ok := impl.AddPolys(c.a, c.b)
		wantPoly(t, "AddPolys", got, ok, c.want.Terms...)
		got, ok = impl.AddPolys(c.b, c.a)
		wantPoly(t, "AddPolys the other way round", got, ok, c.want.Terms...)
	}
	for _, x := range []complex64{complex(greatest, 0), complex(0, minusGreat)} {
		got, ok := impl.AddPolys(polyOf(x, 1), polyOf(x, 1))
		wantNoPoly(t, "a sum that is not finite", got, ok)
	}
}

func TestWeighPolys(t *testing.T) {
	cases := []struct {
		a, b impl.Poly
		x, y complex64
		want impl.Poly
	}{
		{polyOf(1, 1), polyOf(-1, 1), 2, -1, polyOf(3, 1)},
		{polyOf(1, 2, 3), polyOf(4), 2, complex(0, 1), polyOf(complex(2, 4), 4, 6)},
		{polyOf(4), polyOf(1, 2, 3), 2, complex(0, 1), polyOf(complex(8, 1), complex(0, 2), complex(0, 3))},
		{polyOf(complex(1, 2)), polyOf(complex(3, -1)), complex(3, -1), complex(0, 1), polyOf(complex(6, 8))},
		{polyOf(1, 2), polyOf(2, 4), 2, -1, polyOf(0)},
		{polyOf(1, 2, 3), polyOf(4, 5, 6), 2, -1, polyOf(-2, -1)},
		{polyOf(1, 2, 3), polyOf(4, 5, 6), 0, 0, polyOf(0)},
		{polyOf(1, 2, 3), polyOf(4, 5), 0, 1, polyOf(4, 5)},
		// Both products are rounded before they are added.
		{polyOf(near), polyOf(-nearSquare), near, 1, polyOf(0)},
		{polyOf(1, complex(least, 0)), polyOf(1), 0.5, 0, polyOf(0.5)},
		// Zeros with signs: -0 is what 0 times -1 has as its real part.
		{polyOf(complex(minusZero, plusZero)), polyOf(0), 1, -1, polyOf(complex(minusZero, plusZero))},
		{polyOf(complex(minusZero, minusZero)), polyOf(0), 1, -1, polyOf(0)},
		{polyOf(0, 1), polyOf(-1), -1, 0, polyOf(complex(minusZero, plusZero), -1)},
		{polyOf(0, 1), polyOf(1), -1, 0, polyOf(0, -1)},
		{polyOf(0, 1), polyOf(0, 0, 1), -1, -1, polyOf(complex(minusZero, plusZero), -1, -1)},
		{polyOf(1), polyOf(2, complex(minusZero, 1)), -1, 1, polyOf(1, complex(minusZero, 1))},
	}
	for _, c := range cases {
		got, ok := impl.WeighPolys(c.a, c.b, c.x, c.y)
		wantPoly(t, "WeighPolys", got, ok, c.want.Terms...)
		got, ok = impl.WeighPolys(c.b, c.a, c.y, c.x)
		wantPoly(t, "WeighPolys the other way round", got, ok, c.want.Terms...)
	}
	for _, x := range infinities() {
		got, ok := impl.WeighPolys(polyOf(0), polyOf(1), x, 1)
		wantNoPoly(t, "a first weight that is not finite", got, ok)
		got, ok = impl.WeighPolys(polyOf(1), polyOf(0), 1, x)
		wantNoPoly(t, "a second weight that is not finite", got, ok)
	}
	got, ok := impl.WeighPolys(polyOf(complex(greatest, 0)), polyOf(complex(greatest, 0)), 2, -2)
	wantNoPoly(t, "products that are not finite", got, ok)
}

type byCase struct {
	p    impl.Poly
	by   complex64
	want impl.Poly
}

// wantBy checks a function of a polynomial and a number, which fails if the
// number is not finite.
func wantBy(t *testing.T, name string, call func(impl.Poly, complex64) (impl.Poly, bool), cases []byCase) {
	t.Helper()
	for _, c := range cases {
		got, ok := call(c.p, c.by)
		wantPoly(t, name, got, ok, c.want.Terms...)
	}
	for _, x := range infinities() {
		got, ok := call(polyOf(1), x)
		wantNoPoly(t, name+" by what is not finite", got, ok)
	}
}

func TestScalePoly(t *testing.T) {
	cases := []byCase{
		{polyOf(1, 1), 3, polyOf(3, 3)},
		{polyOf(1, complex(0, 2)), complex(0, 1), polyOf(complex(0, 1), -2)},
		{polyOf(1, 2, 3), 0, polyOf(0)},
		{polyOf(0), 5, polyOf(0)},
		{polyOf(1, complex(least, 0)), 0.5, polyOf(0.5)},
		{polyOf(0, 1), -1, polyOf(complex(minusZero, plusZero), complex(-1, plusZero))},
		{polyOf(complex(1, minusZero), 1), complex(1, minusZero), polyOf(complex(1, minusZero), 1)},
		{polyOf(near, complex(near, near)), near, polyOf(nearSquare, complex(nearSquare, nearSquare))},
	}
	wantBy(t, "ScalePoly", impl.ScalePoly, cases)
	got, ok := impl.ScalePoly(polyOf(complex(0, greatest), 1), 2)
	wantNoPoly(t, "ScalePoly that overflows", got, ok)
}

func TestStretchPoly(t *testing.T) {
	cases := []byCase{
		{polyOf(-1, 0, 1), 2, polyOf(-1, 0, 4)},
		{polyOf(1, 1, 1, 1), complex(0, 1), polyOf(1, complex(0, 1), -1, complex(0, -1))},
		{polyOf(5, 1, 1), 0, polyOf(5)},
		{polyOf(7), complex(greatest, greatest), polyOf(7)},
		{ones(5), 3, polyOf(1, 3, 9, 27, 81)},
		// Each power is the rounded one before it times by.
		{polyOf(0, 0, 0, 4096), near, polyOf(0, 0, 0, 4099.00048828125)},
		{polyOf(1, 1, 1), 0x1p-80, polyOf(1, 0x1p-80)},
		{power(2, 0x1p100), 0x1p-76, polyOf(0)},
		// The first term is multiplied, too: -0 less -0 is +0.
		{polyOf(complex(minusZero, -1)), 5, polyOf(complex(plusZero, -1))},
		{polyOf(complex(minusZero, 1)), 5, polyOf(complex(minusZero, 1))},
		{polyOf(complex(1, minusZero), 1), 1, polyOf(complex(1, plusZero), 1)},
	}
	wantBy(t, "StretchPoly", impl.StretchPoly, cases)
	// 0 times a power that is not finite is not a number.
	for _, p := range []impl.Poly{polyOf(0, 0, 1), polyOf(1, 0, 0x1p-100)} {
		got, ok := impl.StretchPoly(p, 1e30)
		wantNoPoly(t, "StretchPoly that overflows", got, ok)
	}
}

func TestShiftPoly(t *testing.T) {
	cases := []byCase{
		{polyOf(-1, 0, 1), 1, polyOf(0, 2, 1)},
		{polyOf(0, 0, 0, 1), 2, polyOf(8, 12, 6, 1)},
		{polyOf(1, 0, 1), complex(0, 1), polyOf(0, complex(0, 2), 1)},
		{polyOf(5), complex(greatest, 1), polyOf(5)},
		{polyOf(0), 7, polyOf(0)},
		{polyOf(1, 2, 3), 0, polyOf(1, 2, 3)},
		{polyOf(complex(minusZero, minusZero), 1), 0, polyOf(complex(plusZero, plusZero), 1)},
		{polyOf(complex(minusZero, minusZero)), 1, polyOf(complex(minusZero, minusZero))},
		// A product is rounded before it is added.
		{polyOf(-nearSquare, near), near, polyOf(0, near)},
		// Terms that are small get lost from the highest one on.
		{polyOf(16777216, 1, 1), 1, polyOf(16777218, 3, 1)},
		{polyOf(1, 16777216, 1), 1, polyOf(16777216, 16777216, 1)},
	}
	wantBy(t, "ShiftPoly", impl.ShiftPoly, cases)
	got, ok := impl.ShiftPoly(power(2, 1), 1e20)
	wantNoPoly(t, "ShiftPoly that overflows", got, ok)
}

// conjugatesOf returns the polynomial whose imaginary parts have the opposite
// signs.
func conjugatesOf(p impl.Poly) impl.Poly {
	terms := make([]complex64, len(p.Terms))
	for k, x := range p.Terms {
		terms[k] = complex(real(x), -imag(x))
	}
	return polyOf(terms...)
}

func TestPartsOfPoly(t *testing.T) {
	minus, zero := complex(minusZero, minusZero), complex(plusZero, plusZero)
	joint := complex(1, minusZero)
	cases := []struct{ p, back, even, odd, joined impl.Poly }{
		{polyOf(0, 2, 3), polyOf(3, 2), polyOf(zero, zero, 3), polyOf(zero, 2), polyOf(complex(0, minusZero), complex(2, minusZero), complex(3, minusZero))},
		{polyOf(complex(1, 2)), polyOf(complex(1, 2)), polyOf(complex(1, 2)), polyOf(0), polyOf(complex(1, -2))},
		{polyOf(zero), polyOf(zero), polyOf(zero), polyOf(zero), polyOf(complex(plusZero, minusZero))},
		{polyOf(minus), polyOf(minus), polyOf(minus), polyOf(zero), polyOf(complex(minusZero, plusZero))},
		{polyOf(joint, complex(0, 1)), polyOf(complex(0, 1), joint), polyOf(joint), polyOf(zero, complex(0, 1)), polyOf(1, complex(0, -1))},
		{polyOf(minus, zero, minus, 1), polyOf(1), polyOf(minus), polyOf(zero, zero, zero, 1), polyOf(complex(minusZero, plusZero), complex(plusZero, minusZero), complex(minusZero, plusZero), joint)},
		{polyOf(1, 2, 3, 4), polyOf(4, 3, 2, 1), polyOf(1, 0, 3), polyOf(0, 2, 0, 4), polyOf(joint, complex(2, minusZero), complex(3, minusZero), complex(4, minusZero))},
		{power(impl.MaxTerms-1, complex(3, minusZero)), polyOf(complex(3, minusZero)), power(impl.MaxTerms-1, complex(3, minusZero)), polyOf(0), conjugatesOf(power(impl.MaxTerms-1, complex(3, minusZero)))},
	}
	for _, c := range cases {
		got, ok := impl.BackPoly(c.p)
		wantPoly(t, "BackPoly", got, ok, c.back.Terms...)
		got, ok = impl.EvenPoly(c.p)
		wantPoly(t, "EvenPoly", got, ok, c.even.Terms...)
		got, ok = impl.OddPoly(c.p)
		wantPoly(t, "OddPoly", got, ok, c.odd.Terms...)
		got, ok = impl.JoinedPoly(c.p)
		wantPoly(t, "JoinedPoly", got, ok, c.joined.Terms...)
	}
}

func TestSlopePoly(t *testing.T) {
	cases := []struct{ p, want impl.Poly }{
		{polyOf(-1, 0, 1), polyOf(0, 2)},
		{polyOf(5), polyOf(0)},
		{polyOf(complex(minusZero, minusZero)), polyOf(0)},
		{polyOf(0), polyOf(0)},
		{polyOf(7, complex(2, -3)), polyOf(complex(2, -3))},
		{polyOf(7, complex(minusZero, -1), complex(plusZero, minusZero), complex(1, minusZero)), polyOf(complex(minusZero, -1), complex(plusZero, minusZero), complex(3, minusZero))},
		{power(16, complex(0.5, -1)), power(15, complex(8, -16))},
		{power(3, complex(afterOne, least)), power(2, complex(3+0x1p-21, 3*least))},
	}
	for _, c := range cases {
		got, ok := impl.SlopePoly(c.p)
		wantPoly(t, "SlopePoly", got, ok, c.want.Terms...)
	}
	got, ok := impl.SlopePoly(power(2, complex(0, greatest)))
	wantNoPoly(t, "SlopePoly that overflows", got, ok)
}

func TestRisePoly(t *testing.T) {
	third := float32(1) / 3
	cases := []struct{ p, want impl.Poly }{
		{polyOf(1, 2), polyOf(0, 1, 1)},
		{polyOf(0), polyOf(0)},
		{polyOf(complex(minusZero, minusZero)), polyOf(0)},
		{polyOf(complex(5, minusZero)), polyOf(0, complex(5, minusZero))},
		{power(2, complex(1, -3)), power(3, complex(third, -1))},
		// The quotient of 1 is rounded first: 5 thirds are 1.6666666 otherwise.
		{power(2, complex(5, 0)), power(3, complex(1.6666667, 0))},
		{power(6, complex(3, minusZero)), power(7, complex(0.42857146, minusZero))},
		// A last term that is halved to 0 is trimmed.
		{polyOf(1, complex(least, 0)), polyOf(0, 1)},
		{withLast(complex(minusLeast, least)), polyOf(append([]complex64{0}, sixteenParts()...)...)},
	}
	for _, c := range cases {
		got, ok := impl.RisePoly(c.p)
		wantPoly(t, "RisePoly", got, ok, c.want.Terms...)
	}
	got, ok := impl.RisePoly(ones(impl.MaxTerms))
	wantNoPoly(t, "RisePoly of too many terms", got, ok)
	got, ok = impl.RisePoly(ones(impl.MaxTerms - 1))
	wantPoly(t, "RisePoly of the most terms", got, ok, append([]complex64{0}, sixteenParts()...)...)
}

// sixteenParts are 1 divided by 1 to 16.
func sixteenParts() []complex64 {
	list := []complex64{}
	for k := 1; k <= 16; k++ {
		list = append(list, complex(1/float32(k), 0))
	}
	return list
}

// withLast returns 16 terms of 1, and a last one.
func withLast(last complex64) impl.Poly {
	return polyOf(append(repeated[complex64](1, 16), last)...)
}

func TestMonicPoly(t *testing.T) {
	cases := []struct{ p, want impl.Poly }{
		{polyOf(4, 2), polyOf(2, 1)},
		{polyOf(complex(0, 4), 2), polyOf(complex(0, 2), 1)},
		{polyOf(complex(minusZero, -3)), polyOf(1)},
		{polyOf(5, complex(0, 1)), polyOf(complex(0, -5), 1)},
		{polyOf(0, complex(-1, minusZero)), polyOf(complex(minusZero, plusZero), 1)},
		{polyOf(complex(minusZero, minusZero), 3, 1), polyOf(complex(minusZero, plusZero), 3, 1)},
		{polyOf(1, 3), polyOf(complex(float32(1)/3, 0), 1)},
		{polyOf(1, complex(greatest, greatest)), polyOf(complex(0x1p-129, -0x1p-129), 1)},
		{power(16, complex(least, least)), power(16, 1)},
	}
	for _, c := range cases {
		got, ok := impl.MonicPoly(c.p)
		wantPoly(t, "MonicPoly", got, ok, c.want.Terms...)
	}
	for _, p := range []impl.Poly{polyOf(0), polyOf(complex(minusZero, minusZero)), polyOf(1, complex(least, 0)), polyOf(complex(0, greatest), 0.5)} {
		got, ok := impl.MonicPoly(p)
		wantNoPoly(t, "MonicPoly", got, ok)
	}
}

func TestThinPoly(t *testing.T) {
	minus := complex(minusZero, minusZero)
	cases := []struct {
		p    impl.Poly
		near float32
		want impl.Poly
	}{
		{polyOf(-1, 0, 1), 1, polyOf(0)},
		{polyOf(0.5, 2), 1, polyOf(0, 2)},
		{polyOf(1, 2, 3, complex(0, -1)), 1, polyOf(0, 2, 3)},
		{polyOf(complex(3, 4), 6), 5, polyOf(0, 6)},
		{polyOf(complex(3, 4), 6), 4.9999995, polyOf(complex(3, 4), 6)},
		{polyOf(minus, complex(minusZero, least)), 0, polyOf(0, complex(minusZero, least))},
		{polyOf(minus, complex(least, 0)), minusZero, polyOf(0, complex(least, 0))},
		{polyOf(1, complex(least, 0)), least, polyOf(1)},
		{polyOf(complex(greatest, 0), complex(greatest, greatest)), greatest, polyOf(0, complex(greatest, greatest))},
		{polyOf(complex(1, minusZero), 2), 0.5, polyOf(complex(1, minusZero), 2)},
		{polyOf(minus), 0, polyOf(0)},
	}
	for _, c := range cases {
		got, ok := impl.ThinPoly(c.p, c.near)
		wantPoly(t, "ThinPoly", got, ok, c.want.Terms...)
	}
	for _, near := range []float32{minusLeast, -1, plusInf, minusInf, nan, oddNaN} {
		got, ok := impl.ThinPoly(polyOf(1), near)
		wantNoPoly(t, "ThinPoly", got, ok)
	}
}
