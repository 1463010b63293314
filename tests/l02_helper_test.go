package tests

import (
	"testing"

	"loop.example/g01358/impl"
)

// polyOf returns the polynomial with these terms, whether it is valid or not.
func polyOf(terms ...complex64) impl.Poly {
	return impl.Poly{Terms: terms}
}

// ones returns the polynomial with n terms of 1.
func ones(n int) impl.Poly {
	return polyOf(repeated[complex64](1, n)...)
}

// power returns the polynomial with the only term x, which is that of power k.
func power(k int, x complex64) impl.Poly {
	p := polyOf(make([]complex64, k+1)...)
	p.Terms[k] = x
	return p
}

// sameLists is the tests' own comparison of lists of complex numbers.
func sameLists(a, b []complex64) bool {
	if len(a) != len(b) {
		return false
	}
	for i, x := range a {
		if !samePair(x, b[i]) {
			return false
		}
	}
	return true
}

func wantList(t *testing.T, what string, got []complex64, ok bool, want ...complex64) {
	t.Helper()
	if !ok || !sameLists(got, want) {
		t.Errorf("%s: got %v, %v, want %v", what, got, ok, want)
	}
}

func wantPoly(t *testing.T, what string, got impl.Poly, ok bool, want ...complex64) {
	t.Helper()
	wantList(t, what, got.Terms, ok, want...)
}

func wantNoPoly(t *testing.T, what string, got impl.Poly, ok bool) {
	t.Helper()
	if ok || len(got.Terms) != 0 {
		t.Errorf("%s: got %v, %v, but it must fail", what, got, ok)
	}
}

func wantNoList(t *testing.T, what string, got []complex64, ok bool) {
	t.Helper()
	if ok || len(got) != 0 {
		t.Errorf("%s: got %v, %v, but it must fail", what, got, ok)
	}
}

func wantNumber(t *testing.T, what string, got float32, ok bool, want float32) {
	t.Helper()
	if !ok {
		t.Errorf("%s fails", what)
	}
	wantFloat(t, what, got, want)
}

func wantNoNumber(t *testing.T, what string, got float32, ok bool) {
	t.Helper()
	if ok || !sameFloat(got, plusZero) {
		t.Errorf("%s: got %g, %v, but it must fail", what, got, ok)
	}
}

// infinities are complex numbers with a part that is not finite.
func infinities() []complex64 {
	list := []complex64{}
	for _, x := range []float32{plusInf, minusInf, nan, oddNaN, quietNaN} {
		list = append(list, complex(x, 1), complex(1, x), complex(x, x), complex(x, plusZero), complex(minusZero, x))
	}
	return list
}

// invalidPolys are polynomials for which every function fails.
func invalidPolys() []impl.Poly {
	zero, minus := complex(plusZero, plusZero), complex(minusZero, minusZero)
	list := []impl.Poly{
		polyOf(), polyOf([]complex64{}...), polyOf(zero, zero), polyOf(1, zero), polyOf(1, minus), polyOf(minus, minus),
		polyOf(1, complex(minusZero, plusZero)), polyOf(1, 2, 3, complex(plusZero, minusZero)),
		ones(impl.MaxTerms + 1), ones(300), polyOf(make([]complex64, impl.MaxTerms+1)...),
	}
	for _, x := range infinities() {
		list = append(list, polyOf(x), polyOf(x, 1), polyOf(1, x), polyOf(1, x, 1), polyOf(1, x, 0))
	}
	return list
}

// validPolys are polynomials with edges.
func validPolys() []impl.Poly {
	return []impl.Poly{
		polyOf(0), polyOf(complex(minusZero, minusZero)), polyOf(1), polyOf(complex(0, 1)), polyOf(complex(least, 0)), polyOf(complex(minusZero, minusLeast)),
		polyOf(0, 1), polyOf(-1, 1), polyOf(complex(minusZero, plusZero), complex(plusZero, least)), polyOf(complex(3, -2), complex(-1, 5)),
		polyOf(-1, 0, 1), polyOf(2, -3, 1), polyOf(complex(greatest, minusGreat), 1, complex(minusGreat, greatest)),
		polyOf(complex(1, 2), 0, complex(-0.5, 3), complex(0, -2)), power(8, complex(0.5, 0.25)),
		ones(impl.MaxTerms - 1), ones(impl.MaxTerms), power(impl.MaxTerms-1, complex(minusZero, 2)),
	}
}
