package tests

import (
	"math"
	"testing"

	"loop.example/g01358/impl"
)

type fitCase struct {
	xs, ys, weights []float32
	degree          int64
	want            []float32
}

func TestFitPoly(t *testing.T) {
	same := []float32{1, 1, 1, 1, 1}
	cases := []fitCase{
		{[]float32{0, 1}, []float32{1, 3}, same[:2], 1, []float32{1, 2}},
		{[]float32{7}, []float32{5}, same[:1], 0, []float32{5}}, {[]float32{7}, []float32{5}, []float32{0.25}, 0, []float32{5}},
		// Weights count as often as they tell.
		{[]float32{0, 1, 2, 3}, []float32{0, 8, 4, 4}, []float32{1, 2, 0, 1}, 0, []float32{5}}, {[]float32{9, 8}, []float32{1, 5}, []float32{3, 1}, 0, []float32{2}},
		{[]float32{0, 1, 1}, []float32{1, 3, 100}, []float32{1, 1, 0}, 1, []float32{1, 2}}, {[]float32{0, 1, 1}, []float32{1, 3, 100}, []float32{1, 1, minusZero}, 1, []float32{1, 2}},
		{[]float32{0, 1, 1}, []float32{1, 2, 6}, []float32{4, 3, 1}, 1, []float32{1, 2}}, {[]float32{2, 2}, []float32{1, 3}, []float32{minusZero, 2}, 0, []float32{3}},
		// -1, 0 and 1 have the sums 3, 0 and 2, with 4, 4 and 4 at the right side:
		// the row of the square is changed by 2/3.
		{[]float32{-1, 0, 1}, []float32{0, 0, 4}, same[:3], 1, []float32{by(4, 3), 2}}, {[]float32{-2, 0, 2}, []float32{4, 0, 4}, same[:3], 0, []float32{by(8, 3)}},
		// Rows that change places: 2, 8 and 8, 40.
		{[]float32{2, 6}, []float32{5, 13}, same[:2], 1, []float32{1, 2}},
		// Numbers that are equally great: 2, -2 and -2, 10.
		{[]float32{-3, 1}, []float32{-5, 3}, same[:2], 1, []float32{1, 2}},
		// Terms of 0 behind the others are left out.
		{[]float32{0, 1}, []float32{4, 4}, same[:2], 1, []float32{4}}, {[]float32{-1, 0, 1}, []float32{1, 1, 1}, same[:3], 2, []float32{1}},
		{[]float32{0, 1}, []float32{0, 0}, same[:2], 1, []float32{0}}, {[]float32{0, 1}, []float32{minusZero, minusZero}, same[:2], 0, []float32{0}},
		{[]float32{-2, -1, 0, 1, 2}, make([]float32, 5), same, impl.MaxFit, []float32{0}},
		// Fewer numbers than the degree wants, for which rounding is enough.
		{[]float32{1, 2}, []float32{1, 2}, same[:2], 2, []float32{0, 1}},
		{[]float32{0}, []float32{greatest}, same[:1], 0, []float32{greatest}}, {[]float32{greatest}, []float32{3}, same[:1], 0, []float32{3}},
		// A sum of weights that is not finite divides to 0.
		{[]float32{0, 0}, []float32{0, 0}, []float32{greatest, greatest}, 0, []float32{0}},
	}
	for _, c := range cases {
		got, ok := impl.FitPoly(c.xs, c.ys, c.weights, c.degree)
		wantPoly(t, plain("FitPoly ", c.xs, ", ", c.ys, ", ", c.weights, " and ", c.degree), got, ok, asPairs(c.want)...)
	}
}

func wantNoFit(t *testing.T, xs, ys, weights []float32, degree int64) {
	t.Helper()
	got, ok := impl.FitPoly(xs, ys, weights, degree)
	wantNoPoly(t, plain("FitPoly ", xs, ", ", ys, ", ", weights, " and ", degree), got, ok)
}

func TestNoFits(t *testing.T) {
	steps := make([]float32, 300)
	for i := range steps {
		steps[i] = float32(i)
	}
	same := repeated[float32](1, 300)
	for _, degree := range []int64{-1, impl.MaxFit + 1, 16, 1 << 32, math.MinInt64, math.MaxInt64} {
		wantNoFit(t, steps[:9], steps[:9], same[:9], degree)
	}
	for degree := range int64(impl.MaxFit + 1) {
		for _, n := range []int{0, impl.MaxTerms + 1, 300} {
			wantNoFit(t, steps[:n], steps[:n], same[:n], degree)
		}
		wantNoFit(t, nil, nil, nil, degree)
		for _, n := range []int{0, 7, 9, impl.MaxTerms} {
			wantNoFit(t, steps[:n], steps[:8], same[:8], degree)
			wantNoFit(t, steps[:8], steps[:n], same[:8], degree)
			wantNoFit(t, steps[:8], steps[:8], same[:n], degree)
		}
		for _, x := range notFinite() {
			for _, at := range []int{0, 3, 7} {
				wrong := append([]float32{}, steps[:8]...)
				wrong[at] = x
				wantNoFit(t, wrong, steps[:8], same[:8], degree)
				wantNoFit(t, steps[:8], wrong, same[:8], degree)
				wantNoFit(t, steps[:8], steps[:8], wrong, degree)
			}
		}
		for _, weight := range []float32{-1, minusLeast, minusGreat} {
			wantNoFit(t, steps[:3], steps[:3], []float32{weight, 1, 1}, degree)
			wantNoFit(t, steps[:3], steps[:3], []float32{1, 1, weight}, degree)
		}
		// Columns of 0.
		wantNoFit(t, steps[:3], steps[:3], make([]float32, 3), degree)
		wantNoFit(t, steps[:2], steps[:2], []float32{minusZero, 0}, degree)
		if degree > 0 {
			wantNoFit(t, make([]float32, 3), steps[:3], same[:3], degree)
			wantNoFit(t, []float32{1}, []float32{1}, same[:1], degree)
			wantNoFit(t, []float32{-1, -1, -1}, steps[:3], same[:3], degree)
		}
	}
}

// TestFitsThatAreNotFinite has sums, powers and quotients that are not.
func TestFitsThatAreNotFinite(t *testing.T) {
	wantNoFit(t, []float32{0, 0}, []float32{2, 2}, []float32{greatest, greatest}, 0)
	wantNoFit(t, []float32{0}, []float32{2}, []float32{greatest}, 0)
	wantNoFit(t, []float32{0}, []float32{greatest}, []float32{2}, 0)
	wantNoFit(t, []float32{0x1p40, 1}, []float32{1, 2}, []float32{1, 1}, 2)
	wantNoFit(t, []float32{greatest, 1}, []float32{1, 2}, []float32{0, 1}, 1)
	wantNoFit(t, []float32{greatest, minusGreat}, []float32{1, 2}, []float32{1, 1}, 1)
	wantNoFit(t, []float32{0, 0x1p-70}, []float32{0, 0x1p70}, []float32{1, 1}, 1)
}

// TestFitsOfTheGreatestDegree has known polynomials.
func TestFitsOfTheGreatestDegree(t *testing.T) {
	xs := []float32{-2, -1, 0, 1, 2}
	for degree := range int64(impl.MaxFit + 1) {
		want := power(int(degree), 3)
		want.Terms[0] += 1
		ys := make([]float32, len(xs))
		for i, x := range xs {
			value, _ := impl.PolyAt(want, complex(x, 0))
			ys[i] = real(value)
		}
		got, ok := impl.FitPoly(xs, ys, repeated[float32](0.5, len(xs)), degree)
		if !ok || len(got.Terms) != len(want.Terms) {
			t.Fatalf("FitPoly of the degree %d: %v, %v", degree, got, ok)
		}
		for k, term := range got.Terms {
			wantClose(t, plain("a term of FitPoly of the degree ", degree), term, want.Terms[k], 1e-4)
			wantFloat(t, "an imaginary part", imag(term), plusZero)
		}
	}
	many := make([]float32, impl.MaxTerms)
	for i := range many {
		many[i] = by(float32(i-8), 8)
	}
	got, ok := impl.FitPoly(many, many, repeated[float32](1, impl.MaxTerms), 1)
	wantPoly(t, "FitPoly of most numbers", got, ok, 0, 1)
}
