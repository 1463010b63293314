package tests

import (
	"testing"

	"loop.example/g01358/impl"
)

// TestExamplesOfPolynomials has the examples of chapter 2, in its order.
func TestExamplesOfPolynomials(t *testing.T) {
	product, ok := impl.MulPolys(polyOf(1, 1), polyOf(-1, 1))
	wantPoly(t, "x + 1 times x - 1", product, ok, -1, 0, 1)
	value, ok := impl.PolyAt(product, 2)
	if !ok {
		t.Errorf("the value at 2 fails")
	}
	wantPair(t, "the value at 2", value, 3)
	slopes, ok := impl.SlopesAt(product, 2)
	wantList(t, "the slopes at 2", slopes, ok, 3, 4, 1)
	quotient, rest, ok := impl.DivPolys(product, polyOf(-1, 1))
	wantPoly(t, "the quotient by x - 1", quotient, ok, 1, 1)
	wantPoly(t, "the rest by x - 1", rest, ok, 0)
}

func TestLimitsOfPolynomials(t *testing.T) {
	if impl.MaxTerms != 17 || impl.MaxWorkers != 8 {
		t.Errorf("the limits are %d and %d", impl.MaxTerms, impl.MaxWorkers)
	}
}
