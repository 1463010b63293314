package tests

import (
	"testing"

	"loop.example/g01358/impl"
)

type productCase struct {
	a, b, want impl.Poly
}

// productCases have the same product told by all terms and by halves.
func productCases() []productCase {
	return []productCase{
		{polyOf(1, 1), polyOf(-1, 1), polyOf(-1, 0, 1)},
		{polyOf(complex(1, 2)), polyOf(complex(3, -1)), polyOf(complex(5, 5))},
		{polyOf(1, 2, 3), polyOf(4, 5), polyOf(4, 13, 22, 15)},
		{polyOf(1, 2, 3, 4, 5), polyOf(1, -1), polyOf(1, 1, 1, 1, 1, -5)},
		{polyOf(complex(0, 1), 1), polyOf(complex(0, -1), 1), polyOf(1, 0, 1)},
		{ones(4), ones(4), polyOf(1, 2, 3, 4, 3, 2, 1)},
		{ones(9), ones(9), polyOf(1, 2, 3, 4, 5, 6, 7, 8, 9, 8, 7, 6, 5, 4, 3, 2, 1)},
		{ones(2), power(15, 1), polyOf(append(make([]complex64, 15), 1, 1)...)},
		{polyOf(3), ones(impl.MaxTerms), polyOf(repeated[complex64](3, impl.MaxTerms)...)},
		{power(8, 2), power(8, 3), power(16, 6)},
		{polyOf(0), polyOf(1, 2, 3), polyOf(0)},
		{polyOf(0), ones(impl.MaxTerms), polyOf(0)},
		{polyOf(0), polyOf(0), polyOf(0)},
		// Sums begin with +0, so that none of them is -0.
		{polyOf(complex(minusZero, minusZero)), polyOf(1), polyOf(0)},
		{polyOf(0), polyOf(-1), polyOf(0)},
		{polyOf(complex(minusZero, plusZero), 1), polyOf(1, 1), polyOf(0, 1, 1)},
		// Products that are too small are 0, and are trimmed.
		{polyOf(1, 0x1p-100), polyOf(1, 0x1p-100), polyOf(1, 0x1p-99)},
		{polyOf(0x1p-100), polyOf(0x1p-100, 0x1p-100), polyOf(0)},
	}
}

func TestProducts(t *testing.T) {
	for _, c := range productCases() {
		got, ok := impl.MulPolys(c.a, c.b)
		wantPoly(t, "MulPolys", got, ok, c.want.Terms...)
		got, ok = impl.MulPolys(c.b, c.a)
		wantPoly(t, "MulPolys the other way round", got, ok, c.want.Terms...)
		got, ok = impl.MulHalves(c.a, c.b)
		wantPoly(t, "MulHalves", got, ok, c.want.Terms...)
		got, ok = impl.MulHalves(c.b, c.a)
		wantPoly(t, "MulHalves the other way round", got, ok, c.want.Terms...)
	}
}

func TestProductsThatFail(t *testing.T) {
	cases := []struct{ a, b impl.Poly }{
		{ones(9), ones(10)},
		{ones(2), ones(impl.MaxTerms)},
		{ones(impl.MaxTerms), ones(impl.MaxTerms)},
		{polyOf(1e30), polyOf(1e30)},
		{polyOf(complex(0, greatest), 1), polyOf(complex(0, 1), 2)},
		{polyOf(1e20, 1), polyOf(1, complex(1, -1e20), 1, complex(greatest, greatest))},
	}
	for _, c := range cases {
		got, ok := impl.MulPolys(c.a, c.b)
		wantNoPoly(t, "MulPolys", got, ok)
		got, ok = impl.MulPolys(c.b, c.a)
		wantNoPoly(t, "MulPolys the other way round", got, ok)
		got, ok = impl.MulHalves(c.a, c.b)
		wantNoPoly(t, "MulHalves", got, ok)
		got, ok = impl.MulHalves(c.b, c.a)
		wantNoPoly(t, "MulHalves the other way round", got, ok)
	}
}

// TestProductsTrimmedToFit has products with more than MaxTerms terms before
// they are trimmed.
func TestProductsTrimmedToFit(t *testing.T) {
	a, b := power(9, 0x1p-100), power(8, 0x1p-100)
	a.Terms[0], b.Terms[0] = 1, 1
	want := power(9, 0x1p-100)
	want.Terms[0], want.Terms[8] = 1, 0x1p-100
	got, ok := impl.MulPolys(a, b)
	wantPoly(t, "MulPolys", got, ok, want.Terms...)
	// A term that is too small for the sum of halves is lost.
	want.Terms[8] = 0
	got, ok = impl.MulHalves(a, b)
	wantPoly(t, "MulHalves", got, ok, want.Terms...)
	last := impl.MaxTerms - 1
	a, want = power(last, 0x1p-100), power(last, 0x1p-99)
	a.Terms[0], want.Terms[0] = 1, 1
	got, ok = impl.MulPolys(a, a)
	wantPoly(t, "MulPolys of the most terms", got, ok, want.Terms...)
	got, ok = impl.MulHalves(a, a)
	wantPoly(t, "MulHalves of the most terms", got, ok, 1)
}

func TestOrderOfProducts(t *testing.T) {
	a, b := polyOf(16777216, 1, 1), polyOf(1, 1, 1)
	got, ok := impl.MulPolys(a, b)
	wantPoly(t, "the great product first", got, ok, 16777216, 16777216, 16777216, 2, 1)
	got, ok = impl.MulPolys(b, a)
	wantPoly(t, "the great product last", got, ok, 16777216, 16777216, 16777218, 2, 1)
	// Each product is rounded before it is added.
	got, ok = impl.MulPolys(polyOf(near, 1), polyOf(-nearSquare, near))
	wantPoly(t, "products that are rounded", got, ok, -(1 + 3*0x1p-12 + 0x1p-23), 0, near)
}

func TestHalvesRoundInTheirOwnWay(t *testing.T) {
	// The least of these get lost in the sums of halves.
	a, b := polyOf(16777216, 0, 1), polyOf(1, 0, 1)
	got, ok := impl.MulPolys(a, b)
	wantPoly(t, "MulPolys", got, ok, 16777216, 0, 16777216, 0, 1)
	got, ok = impl.MulHalves(a, b)
	wantPoly(t, "MulHalves", got, ok, 16777216, 0, 16777215, 0, 1)
	// The halves of each have a sum that is not finite.
	a, b = polyOf(complex(greatest, 0), 0, complex(greatest, 0)), polyOf(0.5)
	got, ok = impl.MulPolys(a, b)
	wantPoly(t, "MulPolys", got, ok, complex(greatest/2, 0), 0, complex(greatest/2, 0))
	got, ok = impl.MulHalves(a, b)
	wantNoPoly(t, "MulHalves", got, ok)
}

func TestDivPolys(t *testing.T) {
	minus := complex(minusZero, minusZero)
	cases := []struct{ a, b, quotient, rest impl.Poly }{
		{polyOf(-1, 0, 1), polyOf(-1, 1), polyOf(1, 1), polyOf(0)},
		{polyOf(5, 0, 1), polyOf(-1, 1), polyOf(1, 1), polyOf(6)},
		{polyOf(1, 2, 3, 4), polyOf(1, 0, 2), polyOf(1.5, 2), polyOf(-0.5)},
		{polyOf(1, 2, 3, 4, 8), polyOf(2, 1, 0, 2), polyOf(2, 4), polyOf(-3, -8, -1)},
		{polyOf(complex(1, 3), complex(2, 1)), polyOf(complex(0, 1)), polyOf(complex(3, -1), complex(1, -2)), polyOf(0)},
		{polyOf(1, 2, 4), polyOf(2), polyOf(0.5, 1, 2), polyOf(0)},
		{polyOf(0), polyOf(7), polyOf(0), polyOf(0)},
		{polyOf(complex(minusZero, minusZero)), polyOf(1, 1), polyOf(0), polyOf(minus)},
		{polyOf(3), polyOf(1, 1), polyOf(0), polyOf(3)},
		{polyOf(1, complex(2, minusZero)), polyOf(1, 2, 3), polyOf(0), polyOf(1, complex(2, minusZero))},
		{power(16, 6), power(16, 2), polyOf(3), polyOf(0)},
		{power(16, 6), power(1, complex(0, 2)), power(15, complex(0, -3)), polyOf(0)},
		{ones(impl.MaxTerms), polyOf(1), ones(impl.MaxTerms), polyOf(0)},
		// The last terms of both results can be 0.
		{polyOf(1, 2, 1, 0, 2), polyOf(1, 0, 0, 2), polyOf(0, 1), polyOf(1, 1, 1)},
		{polyOf(1, 1, 0, 2, 2), polyOf(1, 0, 0, 2), polyOf(1, 1), polyOf(0)},
		{polyOf(3, 0, 0, 2), polyOf(1, 0, 0, 2), polyOf(1), polyOf(2)},
		// A quotient that is too small is 0, and is trimmed.
		{polyOf(1, 0, 0x1p-100), polyOf(1, 0x1p100), polyOf(0), polyOf(1)},
		{polyOf(1, 0x1p100, 0x1p-100), polyOf(1, 0x1p100), polyOf(1), polyOf(0)},
		// The product is rounded before it is taken away.
		{polyOf(nearSquare, near), polyOf(near, 1), polyOf(near), polyOf(0)},
		{polyOf(0, 1), polyOf(1, 3), polyOf(complex(float32(1)/3, 0)), polyOf(complex(-float32(1)/3, 0))},
	}
	for _, c := range cases {
		quotient, rest, ok := impl.DivPolys(c.a, c.b)
		wantPoly(t, "the quotient", quotient, ok, c.quotient.Terms...)
		wantPoly(t, "the rest", rest, ok, c.rest.Terms...)
	}
}

func TestDivPolysThatFail(t *testing.T) {
	cases := []struct{ a, b impl.Poly }{
		{polyOf(1, 1), polyOf(0)},
		{polyOf(0), polyOf(0)},
		{polyOf(1), polyOf(complex(minusZero, minusZero))},
		{polyOf(1), polyOf(complex(least, 0))},
		{polyOf(0, 1e30), polyOf(0, 1e-30)},
		// Only the rest is not finite.
		{polyOf(0, 1e30), polyOf(1e30, 1)},
		{polyOf(complex(minusGreat, 0), 2), polyOf(complex(greatest, 0), 2)},
	}
	for _, c := range cases {
		quotient, rest, ok := impl.DivPolys(c.a, c.b)
		wantNoPoly(t, "the quotient", quotient, ok)
		wantNoPoly(t, "the rest", rest, ok)
	}
}

func TestComposePolys(t *testing.T) {
	minus := complex(minusZero, minusZero)
	cases := []struct{ a, b, want impl.Poly }{
		{polyOf(-1, 0, 1), polyOf(1, 1), polyOf(0, 2, 1)},
		{polyOf(1, 2, 3), polyOf(0, 0, 1), polyOf(1, 0, 2, 0, 3)},
		{polyOf(1, 2, 3), polyOf(2), polyOf(17)},
		{polyOf(1, complex(0, 1)), polyOf(0, complex(0, 1)), polyOf(1, -1)},
		{polyOf(1, 2, 3), polyOf(0), polyOf(1)},
		{polyOf(0), polyOf(1, 2, 3), polyOf(0)},
		{polyOf(7), ones(impl.MaxTerms), polyOf(7)},
		{polyOf(minus), ones(impl.MaxTerms), polyOf(minus)},
		{polyOf(minus, 1), polyOf(minus), polyOf(0)},
		{polyOf(0, 1), ones(impl.MaxTerms), ones(impl.MaxTerms)},
		{power(4, 1), power(4, 2), power(16, 16)},
		{ones(impl.MaxTerms), polyOf(0, 1), ones(impl.MaxTerms)},
		{polyOf(-2, 1), polyOf(2), polyOf(0)},
		{polyOf(-1, 1), polyOf(1, 0x1p-100), polyOf(0, 0x1p-100)},
		// It becomes too small on the way, and so do its terms.
		{power(3, 1), polyOf(0, 0x1p-60), polyOf(0)},
		{polyOf(5, 0, 0, 1), polyOf(0, 0x1p-60), polyOf(5)},
		// Steps, from the last term on.
		{polyOf(16777216, 1, 1), polyOf(1), polyOf(16777218)},
		{polyOf(1, 1, 16777216), polyOf(1), polyOf(16777216)},
	}
	for _, c := range cases {
		got, ok := impl.ComposePolys(c.a, c.b)
		wantPoly(t, "ComposePolys", got, ok, c.want.Terms...)
	}
	wrong := []struct{ a, b impl.Poly }{
		{power(2, 1), power(9, 1)}, {power(9, 1), power(2, 1)}, {power(16, 1), power(2, 1)}, {ones(3), ones(10)},
		{power(2, 1), polyOf(1e20)}, {polyOf(complex(greatest, 0), 1), polyOf(complex(greatest, 0))},
		// The product on the way is not finite.
		{polyOf(complex(minusGreat, 0), 2), polyOf(complex(greatest, 0))},
	}
	for _, c := range wrong {
		got, ok := impl.ComposePolys(c.a, c.b)
		wantNoPoly(t, "ComposePolys", got, ok)
	}
}
