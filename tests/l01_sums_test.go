package tests

import (
	"testing"

	"loop.example/g01358/impl"
)

// near has a square that is rounded to nearSquare: the half of the last place
// that it lacks shows where a product has not been rounded before a sum.
const (
	near       = 1 + 0x1p-12
	nearSquare = 1 + 0x1p-11
)

func TestSumNumbers(t *testing.T) {
	cases := []struct {
		list []float32
		want float32
	}{
		{nil, plusZero},
		{[]float32{}, plusZero},
		{[]float32{minusZero}, plusZero},
		{[]float32{minusZero, minusZero}, plusZero},
		{[]float32{1, 2, 3.5}, 6.5},
		{[]float32{16777216, 1, 1}, 16777216},
		{[]float32{1, 1, 16777216}, 16777218},
		{[]float32{1e30, 1, -1e30}, plusZero},
		{[]float32{1e30, -1e30, 1}, 1},
		{[]float32{least, least}, 2 * least},
		{[]float32{leastNorm, minusLeast}, greatSub},
		{[]float32{greatest, greatest, minusGreat}, plusInf},
		{[]float32{plusInf, minusInf, 1}, nan},
		{[]float32{1, nan}, nan},
		{repeated[float32](0.5, impl.MaxNumbers), 128},
	}
	for _, c := range cases {
		got, ok := impl.SumNumbers(c.list)
		if !ok {
			t.Errorf("SumNumbers fails for %v", c.list)
		}
		wantFloat(t, "SumNumbers", got, c.want)
	}
	if got, ok := impl.SumNumbers(repeated[float32](0.5, impl.MaxNumbers+1)); ok || got != 0 {
		t.Errorf("SumNumbers of a long list: %g, %v", got, ok)
	}
}

func TestDotNumbers(t *testing.T) {
	cases := []struct {
		a, b []float32
		want float32
	}{
		{nil, nil, plusZero},
		{nil, []float32{}, plusZero},
		{[]float32{minusZero}, []float32{1}, plusZero},
		{[]float32{1, 2}, []float32{3, 4}, 11},
		{[]float32{-nearSquare, near}, []float32{1, near}, plusZero},
		{[]float32{4096, 1, 1}, []float32{4096, 1, 1}, 16777216},
		{[]float32{least, least}, []float32{0.5, 0.5}, plusZero},
		{[]float32{greatest, minusGreat}, []float32{2, 1}, plusInf},
		{[]float32{plusInf}, []float32{plusZero}, nan},
		{repeated[float32](0.5, impl.MaxNumbers), repeated[float32](4, impl.MaxNumbers), 512},
	}
	for _, c := range cases {
		got, ok := impl.DotNumbers(c.a, c.b)
		if !ok {
			t.Errorf("DotNumbers fails for %v and %v", c.a, c.b)
		}
		wantFloat(t, "DotNumbers", got, c.want)
	}
	for _, c := range wrongLengths() {
		got, ok := impl.DotNumbers(repeated[float32](1, c[0]), repeated[float32](1, c[1]))
		if ok || got != 0 {
			t.Errorf("DotNumbers of %d and %d numbers: %g, %v", c[0], c[1], got, ok)
		}
	}
}

// wrongLengths are pairs of lengths of lists that cannot be multiplied.
func wrongLengths() [][2]int {
	const most = impl.MaxNumbers
	return [][2]int{{1, 0}, {0, 1}, {2, 3}, {3, 2}, {most, most - 1}, {most, most + 1}, {most + 1, most}, {most + 1, most + 1}}
}

func TestSumComplex(t *testing.T) {
	cases := []struct {
		list []complex64
		want complex64
	}{
		{nil, complex(plusZero, plusZero)},
		{[]complex64{}, complex(plusZero, plusZero)},
		{[]complex64{complex(minusZero, minusZero)}, complex(plusZero, plusZero)},
		{[]complex64{1, complex(2, 3)}, complex(3, 3)},
		{[]complex64{complex(16777216, 1), complex(1, 1), complex(1, 16777216)}, complex(16777216, 16777218)},
		{[]complex64{complex(1e30, -1e30), complex(1, 1), complex(-1e30, 1e30)}, complex(plusZero, plusZero)},
		{[]complex64{complex(least, minusLeast), complex(least, minusLeast)}, complex(2*least, 2*minusLeast)},
		{[]complex64{complex(greatest, plusInf), complex(greatest, minusInf)}, complex(plusInf, nan)},
		{[]complex64{complex(nan, 1), complex(1, 1)}, complex(nan, 2)},
		{repeated[complex64](complex(0.5, -1), impl.MaxNumbers), complex(128, -256)},
	}
	for _, c := range cases {
		got, ok := impl.SumComplex(c.list)
		if !ok {
			t.Errorf("SumComplex fails for %v", c.list)
		}
		wantPair(t, "SumComplex", got, c.want)
	}
	if got, ok := impl.SumComplex(repeated[complex64](1, impl.MaxNumbers+1)); ok || got != 0 {
		t.Errorf("SumComplex of a long list: %v, %v", got, ok)
	}
}

type dotCase struct {
	a, b            []complex64
	dot, conjugated complex64
}

func dotCases() []dotCase {
	zero := complex(plusZero, plusZero)
	return []dotCase{
		{nil, nil, zero, zero},
		{nil, []complex64{}, zero, zero},
		{[]complex64{complex(0, 1)}, []complex64{complex(0, 1)}, -1, 1},
		{[]complex64{complex(1, 2), complex(3, 4)}, []complex64{complex(5, 6), complex(7, 8)}, complex(-18, 68), complex(70, -8)},
		{[]complex64{complex(minusZero, minusZero)}, []complex64{1}, zero, zero},
		{[]complex64{-nearSquare, near}, []complex64{1, near}, zero, zero},
		{[]complex64{4096, 1, 1}, []complex64{4096, 1, 1}, 16777216, 16777216},
		{[]complex64{complex(least, 0), complex(least, 0)}, []complex64{0.5, 0.5}, zero, zero},
		{[]complex64{complex(greatest, greatest)}, []complex64{complex(2, 1)}, complex(greatest, plusInf), complex(plusInf, minusGreat)},
		{[]complex64{complex(plusInf, plusZero)}, []complex64{1}, complex(plusInf, nan), complex(plusInf, nan)},
		{repeated[complex64](complex(0, 2), impl.MaxNumbers), repeated[complex64](complex(1, 1), impl.MaxNumbers), complex(-512, 512), complex(512, -512)},
	}
}

func TestDotsOfComplex(t *testing.T) {
	for _, c := range dotCases() {
		dot, one := impl.DotComplex(c.a, c.b)
		conjugated, two := impl.DotConjugate(c.a, c.b)
		if !one || !two {
			t.Errorf("the sums of products fail for %v and %v", c.a, c.b)
		}
		wantPair(t, "DotComplex", dot, c.dot)
		wantPair(t, "DotConjugate", conjugated, c.conjugated)
	}
	for _, c := range wrongLengths() {
		a, b := repeated[complex64](1, c[0]), repeated[complex64](1, c[1])
		if got, ok := impl.DotComplex(a, b); ok || got != 0 {
			t.Errorf("DotComplex of %d and %d numbers: %v, %v", c[0], c[1], got, ok)
		}
		if got, ok := impl.DotConjugate(a, b); ok || got != 0 {
			t.Errorf("DotConjugate of %d and %d numbers: %v, %v", c[0], c[1], got, ok)
		}
	}
}

func TestPowersOf(t *testing.T) {
	cases := []struct {
		list []complex64
		want float32
	}{
		{nil, plusZero},
		{[]complex64{}, plusZero},
		{[]complex64{complex(minusZero, minusZero)}, plusZero},
		{[]complex64{complex(3, 4), 1}, 26},
		{[]complex64{4096, 1, 1}, 16777218},
		{[]complex64{1, 1, 4096}, 16777218},
		{repeated[complex64](0x1p-75, 3), 2 * least},
		{[]complex64{complex(greatest, 0)}, plusInf},
		{[]complex64{complex(plusInf, 1), complex(0, minusInf)}, plusInf},
		{[]complex64{complex(plusInf, nan)}, nan},
		{repeated[complex64](complex(1, 2), impl.MaxNumbers), 1280},
	}
	for _, c := range cases {
		got, ok := impl.PowersOf(c.list)
		if !ok {
			t.Errorf("PowersOf fails for %v", c.list)
		}
		wantFloat(t, "PowersOf", got, c.want)
	}
	if got, ok := impl.PowersOf(repeated[complex64](1, impl.MaxNumbers+1)); ok || got != 0 {
		t.Errorf("PowersOf of a long list: %g, %v", got, ok)
	}
}
