package tests

import (
	"math"
	"testing"

	"loop.example/g01358/impl"
)

func wantNoRule(t *testing.T, kind, n int64) {
	t.Helper()
	a, b, c, ok := impl.RuleOf(kind, n)
	if ok || !sameFloat(a, plusZero) || !sameFloat(b, plusZero) || !sameFloat(c, plusZero) {
		t.Errorf("RuleOf %d and %d: got %g, %g, %g, %v, but it must fail", kind, n, a, b, c, ok)
	}
}

func TestRuleOf(t *testing.T) {
	cases := []struct {
		kind, n int64
		a, b, c float32
	}{
		{0, 0, 1, plusZero, 1}, {0, 1, 2, plusZero, 1}, {0, 2, 2, plusZero, 1}, {0, 16, 2, plusZero, 1},
		{1, 0, 2, plusZero, 1}, {1, 1, 2, plusZero, 1}, {1, 2, 2, plusZero, 1}, {1, 16, 2, plusZero, 1},
		{2, 0, 1, plusZero, plusZero}, {2, 1, 1.5, plusZero, 0.5}, {2, 2, by(5, 3), plusZero, by(2, 3)}, {2, 16, by(33, 17), plusZero, by(16, 17)},
		{3, 0, 1, plusZero, plusZero}, {3, 1, 1, plusZero, 1}, {3, 2, 1, plusZero, 2}, {3, 16, 1, plusZero, 16},
		{4, 0, -1, 1, plusZero}, {4, 1, -0.5, 1.5, 0.5}, {4, 2, by(-1, 3), by(5, 3), by(2, 3)}, {4, 16, by(-1, 17), by(33, 17), by(16, 17)},
	}
	for _, k := range cases {
		a, b, c, ok := impl.RuleOf(k.kind, k.n)
		wantNumbers(t, plain("RuleOf ", k.kind, " and ", k.n), []float32{a, b, c}, ok, k.a, k.b, k.c)
	}
	for kind := range int64(impl.MaxKinds) {
		for _, n := range noMembers() {
			wantNoRule(t, kind, n)
		}
	}
	for _, kind := range noKinds() {
		wantNoRule(t, kind, 0)
		wantNoRule(t, kind, 1)
		wantNoRule(t, kind, 16)
	}
}

func TestFamilyRow(t *testing.T) {
	minusThird := by(-1, 3)
	cases := []struct {
		kind, n int64
		x       float32
		want    []float32
	}{
		{0, 4, 2, []float32{1, 2, 7, 26, 97}}, {0, 4, 0.5, []float32{1, 0.5, -0.5, -1, -0.5}}, {0, 3, -1, []float32{1, -1, 1, -1}},
		{1, 4, 2, []float32{1, 4, 15, 56, 209}}, {1, 4, 0.5, []float32{1, 1, 0, -1, -1}}, {1, 3, -1, []float32{1, -2, 3, -4}},
		{2, 2, 0.5, []float32{1, 0.5, -0.125}}, {2, 2, 3, []float32{1, 3, 13}}, {2, 1, -1, []float32{1, -1}}, {2, 2, -1, []float32{1, -1, 1}},
		{3, 3, 2, []float32{1, 2, 3, 2}}, {3, 5, 1, []float32{1, 1, 0, -2, -2, 6}},
		{4, 2, 2, []float32{1, -1, -1}}, {4, 2, 0, []float32{1, 1, 1}}, {4, 1, 1, []float32{1, 0}}, {4, 2, 4, []float32{1, -3, 1}},
		// 5/3 less 2/3, which is not 1 in 32 bits.
		{4, 3, 0, []float32{1, 1, 1, by(5, 3) - by(2, 3)}},
		// Zeros: +0 is added to -0, and what is multiplied by -1 becomes -0.
		{0, 4, plusZero, []float32{1, 0, -1, minusZero, 1}}, {0, 3, minusZero, []float32{1, 0, -1, minusZero}}, {1, 3, minusZero, []float32{1, 0, -1, minusZero}},
		{2, 3, minusZero, []float32{1, 0, -0.5, minusZero}}, {3, 3, minusZero, []float32{1, 0, -1, minusZero}}, {4, 1, minusZero, []float32{1, 1}},
		{3, 1, minusLeast, []float32{1, minusLeast}}, {3, 1, greatest, []float32{1, greatest}}, {0, 1, minusGreat, []float32{1, minusGreat}}, {2, 1, greatest, []float32{1, greatest}},
		{4, 1, greatest, []float32{1, minusGreat}},
	}
	for _, c := range cases {
		row, ok := impl.FamilyRow(c.kind, c.n, c.x)
		wantNumbers(t, plain("FamilyRow ", c.kind, ", ", c.n, " and ", c.x), row, ok, c.want...)
	}
	got, ok := impl.FamilyAt(2, 3, 0.5)
	// 5/3 by 0.5 by -0.125, less 2/3 by 0.5.
	wantNumber(t, "FamilyAt 2, 3 and 0.5", got, ok, float32(float32(by(5, 3)*0.5)*-0.125)-float32(by(2, 3)*0.5))
	got, ok = impl.FamilyAt(4, 3, 1)
	// 5/3 less 1/3 by -0.5, less 2/3 by 0.
	wantNumber(t, "FamilyAt 4, 3 and 1", got, ok, float32((minusThird+by(5, 3))*-0.5))
}

// TestRowsFitTogether has all kinds, and n from 0 on.
func TestRowsFitTogether(t *testing.T) {
	for kind := range int64(impl.MaxKinds) {
		for _, x := range []float32{0, minusZero, 1, -1, 0.3, -2.75, 9, 100} {
			row, ok := impl.FamilyRow(kind, impl.MaxTerms-1, x)
			if !ok || len(row) != impl.MaxTerms {
				t.Fatalf("FamilyRow %d and %g: %v, %v", kind, x, row, ok)
			}
			for n := range int64(impl.MaxTerms) {
				got, ok := impl.FamilyAt(kind, n, x)
				wantNumber(t, plain("FamilyAt ", kind, ", ", n, " and ", x), got, ok, row[n])
				first, ok := impl.FamilyRow(kind, n, x)
				wantNumbers(t, plain("FamilyRow ", kind, ", ", n, " and ", x), first, ok, row[:n+1]...)
			}
		}
		for _, x := range specials() {
			if impl.IsFinite(x) {
				row, ok := impl.FamilyRow(kind, 0, x)
				wantNumbers(t, plain("FamilyRow ", kind, ", 0 and ", x), row, ok, 1)
				got, ok := impl.FamilyAt(kind, 0, x)
				wantNumber(t, plain("FamilyAt ", kind, ", 0 and ", x), got, ok, 1)
			}
		}
	}
}

func wantNoRow(t *testing.T, kind, n int64, x float32) {
	t.Helper()
	row, ok := impl.FamilyRow(kind, n, x)
	wantNoNumbers(t, plain("FamilyRow ", kind, ", ", n, " and ", x), row, ok)
	got, ok := impl.FamilyAt(kind, n, x)
	wantNoNumber(t, plain("FamilyAt ", kind, ", ", n, " and ", x), got, ok)
	shared, ok := impl.ValuesShared(kind, n, []float32{0, x}, 2)
	wantNoNumbers(t, plain("ValuesShared ", kind, ", ", n, " and ", x), shared, ok)
}

func TestNoFamilyRows(t *testing.T) {
	for kind := range int64(impl.MaxKinds) {
		for _, n := range noMembers() {
			wantNoRow(t, kind, n, 0.5)
		}
		for _, x := range notFinite() {
			wantNoRow(t, kind, 0, x)
			wantNoRow(t, kind, 2, x)
		}
		// Products, or their differences, that are not finite.
		for _, x := range []float32{greatest, minusGreat, 0x1p127} {
			wantNoRow(t, kind, 2, x)
			wantNoRow(t, kind, 3, x)
			wantNoRow(t, kind, 16, x)
		}
		wantNoRow(t, kind, 16, 0x1p20)
	}
	wantNoRow(t, 1, 1, greatest)
	for _, kind := range noKinds() {
		wantNoRow(t, kind, 0, 0.5)
		wantNoRow(t, kind, 1, 0.5)
		wantNoRow(t, kind, 16, 0.5)
	}
}

func TestFamilyPoly(t *testing.T) {
	third, twoThirds, fiveThirds := by(1, 3), by(2, 3), by(5, 3)
	cases := []struct {
		kind, n int64
		want    []float32
	}{
		{0, 0, []float32{1}}, {0, 1, []float32{0, 1}}, {0, 2, []float32{-1, 0, 2}}, {0, 3, []float32{0, -3, 0, 4}}, {0, 4, []float32{1, 0, -8, 0, 8}},
		{0, 5, []float32{0, 5, 0, -20, 0, 16}}, {0, 8, []float32{1, 0, -32, 0, 160, 0, -256, 0, 128}},
		{1, 0, []float32{1}}, {1, 1, []float32{0, 2}}, {1, 2, []float32{-1, 0, 4}}, {1, 3, []float32{0, -4, 0, 8}}, {1, 4, []float32{1, 0, -12, 0, 16}},
		{1, 5, []float32{0, 6, 0, -32, 0, 32}},
		{2, 0, []float32{1}}, {2, 1, []float32{0, 1}}, {2, 2, []float32{-0.5, 0, 1.5}},
		{2, 3, []float32{0, float32(fiveThirds*-0.5) - twoThirds, 0, fiveThirds * 1.5}},
		{3, 0, []float32{1}}, {3, 1, []float32{0, 1}}, {3, 2, []float32{-1, 0, 1}}, {3, 3, []float32{0, -3, 0, 1}}, {3, 4, []float32{3, 0, -6, 0, 1}},
		{3, 5, []float32{0, 15, 0, -10, 0, 1}}, {3, 8, []float32{105, 0, -420, 0, 210, 0, -28, 0, 1}},
		{4, 0, []float32{1}}, {4, 1, []float32{1, -1}}, {4, 2, []float32{1, -2, 0.5}},
		{4, 3, []float32{fiveThirds - twoThirds, float32(-third+float32(fiveThirds*-2)) + twoThirds, twoThirds + float32(fiveThirds*0.5), -third * 0.5}},
	}
	for _, c := range cases {
		got, ok := impl.FamilyPoly(c.kind, c.n)
		wantPoly(t, plain("FamilyPoly ", c.kind, " and ", c.n), got, ok, asPairs(c.want)...)
	}
	for kind := range int64(impl.MaxKinds) {
		for n := range int64(impl.MaxTerms) {
			p, ok := impl.FamilyPoly(kind, n)
			if !ok || !impl.ValidPoly(p) || len(p.Terms) != int(n)+1 {
				t.Errorf("FamilyPoly %d and %d: %v, %v", kind, n, p, ok)
			}
			for k, term := range p.Terms {
				if !sameFloat(imag(term), plusZero) || (real(term) == 0 || kind < 4 && (int(n)-k)%2 == 1) && !sameFloat(real(term), plusZero) {
					t.Errorf("FamilyPoly %d and %d has the term %v", kind, n, term)
				}
			}
		}
		for _, n := range noMembers() {
			p, ok := impl.FamilyPoly(kind, n)
			wantNoPoly(t, plain("FamilyPoly ", kind, " and ", n), p, ok)
		}
	}
	for _, kind := range noKinds() {
		for _, n := range []int64{0, 1, 16} {
			p, ok := impl.FamilyPoly(kind, n)
			wantNoPoly(t, plain("FamilyPoly ", kind, " and ", n), p, ok)
		}
	}
}

func TestFamilySum(t *testing.T) {
	cases := []struct {
		kind    int64
		weights []float32
		x, want float32
	}{
		{0, []float32{1, 2, 3}, 0.5, 0.5}, {0, []float32{1, 2, 3}, 2, 26}, {1, []float32{1, 2, 3}, 2, 54}, {2, []float32{1, 2, 8}, 0.5, 1},
		{3, []float32{1, 2, 3, 4}, 2, 22}, {4, []float32{1, 2, 4}, 2, -5}, {3, []float32{0, 0, 0, 0, 0, 1}, 1, 6},
		{0, []float32{5}, 0.25, 5}, {3, []float32{least}, greatest, least}, {0, []float32{1}, greatest, 1}, {2, []float32{-7}, minusGreat, -7},
		// Zeros: -0 plus +0, and plus -0.
		{0, []float32{minusZero}, 1, plusZero}, {0, []float32{minusZero}, -1, minusZero}, {4, []float32{minusZero}, 2, minusZero}, {4, []float32{minusZero}, -2, plusZero},
		{0, []float32{plusZero}, -1, plusZero}, {3, []float32{minusZero, minusZero}, 1, plusZero},
		{0, repeated[float32](1, impl.MaxTerms), 1, impl.MaxTerms}, {0, repeated[float32](1, impl.MaxTerms), -1, 1}, {1, repeated[float32](2, impl.MaxTerms), 1, 2 * 153},
		{4, repeated[float32](1, impl.MaxTerms), 0, 17},
	}
	for _, c := range cases {
		got, ok := impl.FamilySum(c.kind, c.weights, c.x)
		if c.kind == 4 && len(c.weights) == impl.MaxTerms {
			wantClose(t, "FamilySum of most weights", complex(got, 0), complex(c.want, 0), 1e-4)
			continue
		}
		wantNumber(t, plain("FamilySum ", c.kind, ", ", c.weights, " and ", c.x), got, ok, c.want)
	}
	fails := func(kind int64, weights []float32, x float32) {
		t.Helper()
		got, ok := impl.FamilySum(kind, weights, x)
		wantNoNumber(t, plain("FamilySum ", kind, ", ", weights, " and ", x), got, ok)
	}
	for kind := range int64(impl.MaxKinds) {
		for _, weights := range [][]float32{nil, {}, make([]float32, impl.MaxTerms+1), make([]float32, 300)} {
			fails(kind, weights, 0.5)
		}
		for _, x := range notFinite() {
			fails(kind, []float32{1}, x)
			fails(kind, []float32{1, 2}, x)
			fails(kind, []float32{x}, 0.5)
			fails(kind, []float32{x, 1}, 0.5)
			fails(kind, []float32{1, 1, x}, 0.5)
		}
		fails(kind, []float32{1, 1, 1}, 0x1p127)
		fails(kind, []float32{greatest, greatest}, 1.5+float32(kind/4)*-3)
	}
	// a times x is not finite, although it would be multiplied by 0.
	fails(1, []float32{1}, greatest)
	fails(0, []float32{1, 1}, greatest)
	for _, kind := range noKinds() {
		fails(kind, []float32{1}, 0.5)
		fails(kind, []float32{1, 2, 3}, 0.5)
	}
}

func TestFamilyOf(t *testing.T) {
	cases := []struct {
		kind        int64
		terms, want []complex64
	}{
		{0, []complex64{0, 0, 1}, []complex64{0.5, 0, 0.5}},
		{0, []complex64{0, 0, 0, 8}, []complex64{0, 6, 0, 2}}, {0, []complex64{1, 2, 3}, []complex64{2.5, 2, 1.5}},
		{0, []complex64{complex(1, -1), complex(0, 2), complex(4, 8)}, []complex64{complex(3, 3), complex(0, 2), complex(2, 4)}},
		{1, []complex64{0, 0, 4}, []complex64{1, 0, 1}}, {1, []complex64{0, 0, 0, 8}, []complex64{0, 2, 0, 1}},
		{2, []complex64{1, 2, 3}, []complex64{2, 2, 2}},
		{3, []complex64{0, 0, 1}, []complex64{1, 0, 1}}, {3, []complex64{0, 0, 0, 0, 1}, []complex64{3, 0, 6, 0, 1}}, {3, []complex64{complex(0, 5), 7}, []complex64{complex(0, 5), 7}},
		{4, []complex64{0, 1}, []complex64{1, -1}}, {4, []complex64{0, 0, 1}, []complex64{2, -4, 2}},
		{0, []complex64{0}, []complex64{0}}, {4, []complex64{0}, []complex64{0}},
		// -0 by 1 has -0 + (-0)(-0), and then -0 (-0) + (-0) for its parts.
		{1, []complex64{minusBoth}, []complex64{complex(minusZero, plusZero)}},
		{2, []complex64{complex(greatest, minusLeast)}, []complex64{complex(greatest, minusLeast)}},
	}
	for _, c := range cases {
		got, ok := impl.FamilyOf(c.kind, polyOf(c.terms...))
		if !ok || len(got) != len(c.want) {
			t.Fatalf("FamilyOf %d and %v: got %v, %v, want %v", c.kind, c.terms, got, ok, c.want)
		}
		for k, weight := range got {
			// Others have zeros whose signs the sweep tells.
			if weight != c.want[k] || len(got) == 1 && !samePair(weight, c.want[k]) {
				t.Errorf("FamilyOf %d and %v: got %v, want %v", c.kind, c.terms, got, c.want)
			}
		}
	}
	fails := func(kind int64, p impl.Poly) {
		t.Helper()
		got, ok := impl.FamilyOf(kind, p)
		wantNoList(t, plain("FamilyOf ", kind, " and ", p), got, ok)
	}
	for kind := range int64(impl.MaxKinds) {
		for _, p := range invalidPolys() {
			fails(kind, p)
		}
	}
	// Differences, and quotients, that are not finite.
	fails(3, polyOf(complex(greatest, 0), 0, complex(greatest, 0)))
	fails(3, polyOf(complex(minusGreat, 0), 0, 0, 0, complex(greatest, 0)))
	fails(4, power(16, 1e30))
	for _, kind := range noKinds() {
		fails(kind, polyOf(1))
		fails(kind, polyOf(0, 0, 1))
	}
}

func TestPolyOfFamily(t *testing.T) {
	cases := []struct {
		kind          int64
		weights, want []complex64
	}{
		{0, []complex64{0.5, 0, 0.5}, []complex64{0, 0, 1}}, {0, []complex64{5}, []complex64{5}}, {0, []complex64{0, 0, 0, 2}, []complex64{0, -6, 0, 8}},
		{0, []complex64{1, complex(0, 2), complex(1, 1)}, []complex64{complex(0, -1), complex(0, 2), complex(2, 2)}},
		{1, []complex64{1, 0, 1}, []complex64{0, 0, 4}}, {2, []complex64{2, 2, 2}, []complex64{1, 2, 3}}, {3, []complex64{3, 0, 6, 0, 1}, []complex64{0, 0, 0, 0, 1}},
		{4, []complex64{2, -4, 2}, []complex64{0, 0, 1}}, {4, []complex64{1, 1}, []complex64{2, -1}},
		// Highest terms of 0, of weights, and of their sum.
		{0, []complex64{1, 2, 0}, []complex64{1, 2}}, {0, []complex64{1, 0, 0, minusBoth}, []complex64{1}}, {3, make([]complex64, impl.MaxTerms), []complex64{0}},
		{4, []complex64{2, 0}, []complex64{2}}, {4, []complex64{0, 0, complex(least, 0)}, []complex64{complex(least, 0), complex(-2*least, 0)}},
		// Sums begin with +0.
		{0, []complex64{minusBoth}, []complex64{0}}, {2, []complex64{minusBoth, minusBoth, minusBoth}, []complex64{0}}, {3, []complex64{complex(minusZero, 3)}, []complex64{complex(0, 3)}},
	}
	for _, c := range cases {
		got, ok := impl.PolyOfFamily(c.kind, c.weights)
		wantPoly(t, plain("PolyOfFamily ", c.kind, " and ", c.weights), got, ok, c.want...)
	}
	fails := func(kind int64, weights []complex64) {
		t.Helper()
		got, ok := impl.PolyOfFamily(kind, weights)
		wantNoPoly(t, plain("PolyOfFamily ", kind, " and ", weights), got, ok)
	}
	for kind := range int64(impl.MaxKinds) {
		most, ok := impl.PolyOfFamily(kind, power(impl.MaxTerms-1, 1).Terms)
		want, _ := impl.FamilyPoly(kind, impl.MaxTerms-1)
		wantPoly(t, "PolyOfFamily of most weights", most, ok, want.Terms...)
		for _, weights := range [][]complex64{nil, {}, make([]complex64, impl.MaxTerms+1), make([]complex64, 300)} {
			fails(kind, weights)
		}
		for _, x := range infinities() {
			fails(kind, []complex64{x})
			fails(kind, []complex64{1, x})
			fails(kind, []complex64{x, 1})
		}
	}
	fails(0, []complex64{0, 0, complex(greatest, 0)})
	fails(3, []complex64{complex(minusGreat, 0), 0, complex(greatest, 0)})
	for _, kind := range noKinds() {
		fails(kind, []complex64{1})
		fails(kind, []complex64{1, 2, 3})
	}
}

func TestValuesShared(t *testing.T) {
	many := make([]float32, impl.MaxNumbers)
	for i := range many {
		many[i] = float32(i-128) / 64
	}
	for _, xs := range [][]float32{{1}, {minusZero}, {0, 0, 1}, many[:2], many[:9], many[:255], many} {
		for kind := range int64(impl.MaxKinds) {
			for _, n := range []int64{0, 1, 5, 16} {
				want := []float32{}
				for _, x := range xs {
					value, _ := impl.FamilyAt(kind, n, x)
					want = append(want, value)
				}
				for _, workers := range counts() {
					got, ok := impl.ValuesShared(kind, n, xs, workers)
					wantNumbers(t, plain("ValuesShared ", kind, ", ", n, ", ", len(xs), " and ", workers), got, ok, want...)
				}
			}
		}
		for _, workers := range wrongCounts() {
			got, ok := impl.ValuesShared(0, 1, xs, workers)
			wantNoNumbers(t, plain("ValuesShared with workers ", workers), got, ok)
		}
	}
	for _, workers := range append(counts(), wrongCounts()...) {
		for _, xs := range [][]float32{nil, {}, append([]float32{0}, many...), make([]float32, 300)} {
			got, ok := impl.ValuesShared(0, 1, xs, workers)
			wantNoNumbers(t, plain("ValuesShared of ", len(xs), " and ", workers), got, ok)
		}
		wrong := append([]float32{0, 0, 0}, many[:200]...)
		for i := range 3 {
			wrong[i] = float32(math.Inf(1 - 2*(i%2)))
			got, ok := impl.ValuesShared(0, 1, wrong, workers)
			wantNoNumbers(t, "ValuesShared of an infinity", got, ok)
			wrong[i] = greatest
			got, ok = impl.ValuesShared(0, 2, wrong, workers)
			wantNoNumbers(t, "ValuesShared of a value that is not finite", got, ok)
			wrong[i] = 0
		}
	}
}
