package tests

import (
	"testing"

	"loop.example/g01358/impl"
)

// TestExamplesOfRoots has the examples of chapter 5, in its order.
func TestExamplesOfRoots(t *testing.T) {
	step, ok := impl.SlopeOnce(polyOf(0, 0, 1), 1)
	wantValue(t, "the step of 0, 0, 1 from 1", step, ok, 0.5)
	squared, ok := impl.SquaredRoots(withRoots(1, 2))
	wantPoly(t, "the squares of the roots 1 and 2", squared, ok, 4, -5, 1)
	clusters, ok := impl.ClustersOfRoots([]complex64{0, 1, 5}, 1)
	wantIntegers(t, "the clusters of 0, 1 and 5 for 1", clusters, ok, 0, 0, 1)
}

func TestLimitsOfRoots(t *testing.T) {
	if impl.MaxRoots != 16 || impl.MaxTurns != 64 || impl.MaxGridSide != 24 {
		t.Errorf("the limits are %d, %d and %d", impl.MaxRoots, impl.MaxTurns, impl.MaxGridSide)
	}
}
