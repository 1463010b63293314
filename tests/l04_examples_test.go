package tests

import (
	"testing"

	"loop.example/g01358/impl"
)

// TestExamplesOfSigns has the examples of chapter 4, in its order.
func TestExamplesOfSigns(t *testing.T) {
	r := realOf(-2, 0, 1)
	roots, ok := impl.RealRoots(r)
	wantInteger(t, "the roots of x^2 - 2", roots, ok, 2)
	between, ok := impl.RootsBetween(r, 1, 2, 1)
	wantInteger(t, "those between 1 and 2", between, ok, 1)
	chain, ok := impl.ChainOf(r)
	wantInteger(t, "its chain", chain, ok, 3)
	gaps, ok := impl.IsolateRoots(r)
	wantGaps(t, "its gaps", gaps, ok, impl.Gap{Low: -8, High: 0, Shift: 1}, impl.Gap{Low: 0, High: 8, Shift: 1})
	ratios, ok := impl.RatioRoots(realOf(-1, -1, 2))
	wantIntegers(t, "the roots of 2 x^2 - x - 1", ratios, ok, -1, 2, 1, 1)
}

func TestLimitsOfSigns(t *testing.T) {
	if impl.MaxReal != 9 || impl.MaxTermOf != 1000 || impl.MaxShift != 30 {
		t.Errorf("the limits are %d, %d and %d", impl.MaxReal, impl.MaxTermOf, impl.MaxShift)
	}
}
