package tests

import (
	"testing"

	"loop.example/g01358/impl"
)

// TestExamplesOfSeries has the examples of chapter 7, in its order.
func TestExamplesOfSeries(t *testing.T) {
	inverse, ok := impl.InverseSeries([]complex64{1, -1})
	wantList(t, "the inverse of 1, -1", inverse, ok, 1, 1)
	rule, ok := impl.RuleOver([]int64{1, 1, 2, 3, 5}, 7)
	wantIntegers(t, "the rule of 1, 1, 2, 3, 5 over 7", rule, ok, 1, 1)
	p, q, ok := impl.FitQuotient([]complex64{1, 1}, 0, 1)
	wantPoly(t, "p of what fits 1, 1", p, ok, 1)
	wantPoly(t, "q of what fits 1, 1", q, ok, 1, -1)
}

func TestLimitsOfSeries(t *testing.T) {
	if impl.MaxSeries != 16 || impl.MaxRule != 64 || impl.MaxSaved != 8 {
		t.Errorf("the limits are %d, %d and %d", impl.MaxSeries, impl.MaxRule, impl.MaxSaved)
	}
}
