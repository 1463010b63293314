package tests

import (
	"testing"

	"loop.example/g01358/impl"
)

// TestExamplesOfIntegers has the examples of chapter 3, in its order.
func TestExamplesOfIntegers(t *testing.T) {
	square, ok := impl.MulWholes(whole(1, 1), whole(1, 1))
	wantWhole(t, "1 and 1 squared", square, ok, 1, 2, 1)
	slope, ok := impl.SlopeWhole(square)
	wantWhole(t, "its slope", slope, ok, 2, 2)
	common, ok := impl.CommonWhole(square, slope)
	wantWhole(t, "the common one", common, ok, 1, 1)
	roots, ok := impl.FractionRoots(whole(-6, 1, 1))
	wantIntegers(t, "the roots of -6, 1, 1", roots, ok, -3, 1, 2, 1)
	factors, ok := impl.FactorsOver(whole(1, 0, 1), 2)
	wantWholes(t, "the factors of 1 0 1 over 2", factors, ok, whole(1, 1), whole(1, 1))
}

func TestLimitsOfIntegers(t *testing.T) {
	if impl.MaxDegree3 != 16 || impl.MaxWholeTerm != 1000000 || impl.MaxPrime != 13 {
		t.Errorf("the limits are %d, %d and %d", impl.MaxDegree3, impl.MaxWholeTerm, impl.MaxPrime)
	}
}
