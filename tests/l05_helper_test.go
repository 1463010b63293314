package tests

import (
	"testing"

	"loop.example/g01358/impl"
)

// minusBoth is -0 in both parts.
var minusBoth = complex(minusZero, minusZero)

// withRoots returns the polynomial with these roots.
func withRoots(roots ...complex64) impl.Poly {
	p, _ := impl.PolyOfRoots(roots)
	return p
}

// stepsBy returns the numbers 0, by, 2 by, and so on, n of them.
func stepsBy(by complex64, n int) []complex64 {
	list := make([]complex64, n)
	for i := range list {
		list[i] = impl.ScaleComplex(by, float32(i))
	}
	return list
}

// noRootPolys are polynomials for which every function of chapter 5 fails: also
// those that are valid, but have no degree of at least 1.
func noRootPolys() []impl.Poly {
	return append(invalidPolys(), polyOf(0), polyOf(minusBoth), polyOf(1), polyOf(complex(0, least)), polyOf(complex(greatest, minusGreat)))
}

// noRootLists are lists for which every function of chapter 5 fails.
func noRootLists() [][]complex64 {
	lists := [][]complex64{nil, {}, stepsBy(1, impl.MaxRoots+1), stepsBy(1, 300), make([]complex64, impl.MaxRoots+1)}
	for _, x := range infinities() {
		lists = append(lists, []complex64{x}, []complex64{1, x}, []complex64{x, 2}, []complex64{1, x, 2})
	}
	return lists
}

// sides are the corners of a box.
type sides struct {
	low, high complex64
}

// noBoxes are corners for which every function of boxes fails.
func noBoxes() []sides {
	list := []sides{
		{0, 0}, {0, 1}, {0, complex(0, 1)}, {complex(1, 0), complex(1, 2)}, {complex(0, 1), complex(2, 1)}, {complex(minusZero, 0), complex(plusZero, 1)},
		{complex(1, 0), complex(0, 1)}, {complex(0, 1), complex(1, 0)}, {complex(1, 1), complex(0, 0)}, {complex(1, -4), complex(afterOne, -5)},
		{complex(minusGreat, -1), complex(greatest, 1)}, {complex(-1, minusGreat), complex(1, greatest)}, {complex(minusGreat, minusGreat), complex(greatest, greatest)},
		{complex(minusGreat, -1), complex(0x1p103, 1)}, {complex(-1, -0x1p103), complex(1, greatest)},
	}
	for _, x := range infinities() {
		list = append(list, sides{x, complex(9, 9)}, sides{complex(-9, -9), x}, sides{x, x})
	}
	return list
}

func wantValue(t *testing.T, what string, got complex64, ok bool, want complex64) {
	t.Helper()
	if !ok {
		t.Errorf("%s fails", what)
	}
	wantPair(t, what, got, want)
}

func wantNoValue(t *testing.T, what string, got complex64, ok bool) {
	t.Helper()
	if ok || !samePair(got, 0) {
		t.Errorf("%s: got %v, %v, but it must fail", what, got, ok)
	}
}

func wantNumbers(t *testing.T, what string, got []float32, ok bool, want ...float32) {
	t.Helper()
	same := len(got) == len(want)
	for i := 0; same && i < len(want); i++ {
		same = sameFloat(got[i], want[i])
	}
	if !ok || !same {
		t.Errorf("%s: got %v, %v, want %v", what, got, ok, want)
	}
}

func wantNoNumbers(t *testing.T, what string, got []float32, ok bool) {
	t.Helper()
	if ok || len(got) != 0 {
		t.Errorf("%s: got %v, %v, but it must fail", what, got, ok)
	}
}

// wantClose takes numbers that are not far from each other.
func wantClose(t *testing.T, what string, got, want complex64, far float32) {
	t.Helper()
	if !(impl.LongOf(got-want) <= far) {
		t.Errorf("%s: got %v, want %v, nearly", what, got, want)
	}
}
