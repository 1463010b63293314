package tests

import (
	"testing"

	"loop.example/g01358/impl"
)

// TestExamplesOfValues has the examples of chapter 6, in its order.
func TestExamplesOfValues(t *testing.T) {
	points, values := []complex64{0, 1, 2}, []complex64{1, 2, 5}
	divided, ok := impl.DividedOf(points, values)
	wantList(t, "the divided differences of 1, 2 and 5", divided, ok, 1, 1, 1)
	p, ok := impl.PassingPoly(points, values)
	wantPoly(t, "what passes 1, 2 and 5", p, ok, 1, 0, 1)
	p, ok = impl.FamilyPoly(0, 2)
	wantPoly(t, "the polynomial 2 of kind 0", p, ok, -1, 0, 2)
	square := polyOf(0, 0, 1)
	mass, ok := impl.MassOf(square, 2)
	wantClose(t, "the mass of x^2", mass, complex(2.0/3, 0), 1e-6)
	if !ok {
		t.Errorf("MassOf fails")
	}
	mass, ok = impl.ExactMass(square)
	wantClose(t, "the exact mass of x^2", mass, complex(2.0/3, 0), 1e-6)
	if !ok {
		t.Errorf("ExactMass fails")
	}
}

func TestLimitsOfValues(t *testing.T) {
	if impl.MaxKinds != 5 || impl.MaxNodes != 8 || impl.MaxFit != 4 {
		t.Errorf("the limits are %d, %d and %d", impl.MaxKinds, impl.MaxNodes, impl.MaxFit)
	}
}
