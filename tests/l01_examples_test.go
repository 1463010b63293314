package tests

import (
	"testing"

	"loop.example/g01358/impl"
)

// TestExamplesOfNumbers has the examples of chapter 1, in its order.
func TestExamplesOfNumbers(t *testing.T) {
	wantPair(t, "the product", impl.MulComplex(complex(1, 2), complex(3, -1)), complex(5, 5))
	wantPair(t, "the quotient", impl.QuotientOf(complex(0, 4), 2), complex(0, 2))
	phasor := impl.PhasorOf(0.25)
	wantPair(t, "the phasor", phasor, complex(0, 1))
	wantFloat(t, "its angle", impl.AngleOf(phasor), 0.25)
	if text, ok := impl.ComplexText([]complex64{1}); !ok || text != "3f80000000000000" {
		t.Errorf("the text of 1 is %q, %v", text, ok)
	}
	if tenths, ok := impl.TenthsOf(1); !ok || tenths != 0 {
		t.Errorf("the power 1 has %d, %v tenths", tenths, ok)
	}
}

func TestLimitsOfNumbers(t *testing.T) {
	if impl.MaxNumbers != 256 || impl.MaxValue != 1000000000000000 || impl.MaxItems != 64 || impl.CheckSize != 65003 {
		t.Errorf("the limits are %d, %d, %d and %d", impl.MaxNumbers, impl.MaxValue, impl.MaxItems, impl.CheckSize)
	}
}
