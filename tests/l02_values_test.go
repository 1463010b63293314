package tests

import (
	"testing"

	"loop.example/g01358/impl"
)

type pointCase struct {
	p impl.Poly
	z complex64
}

func notFinitePoints() []pointCase {
	list := []pointCase{}
	for _, x := range infinities() {
		list = append(list, pointCase{polyOf(1), x})
	}
	return list
}

func TestPolyAt(t *testing.T) {
	cases := []struct {
		p    impl.Poly
		z    complex64
		want complex64
	}{
		{polyOf(-1, 0, 1), 2, 3},
		{polyOf(-1, 0, 1), complex(0, 1), -2},
		{polyOf(complex(1, 2), complex(3, 4)), complex(5, 6), complex(-8, 40)},
		{polyOf(7), complex(greatest, 1), 7},
		{polyOf(complex(minusZero, minusZero)), 3, complex(minusZero, minusZero)},
		{polyOf(0), 3, 0},
		{polyOf(-2, 1), 2, 0},
		{polyOf(complex(minusZero, 1), 1), -0x1p-149, complex(minusLeast, 1)},
		{polyOf(complex(minusZero, minusZero), -1), 0, complex(minusZero, plusZero)},
		{ones(impl.MaxTerms), 2, 131071},
		{power(16, 1), 2, 65536},
		// A product is rounded before the term is added to it.
		{polyOf(-nearSquare, near), near, 0},
		{polyOf(1, 1, 16777216), 1, 16777216},
		{polyOf(16777216, 1, 1), 1, 16777218},
	}
	for _, c := range cases {
		got, ok := impl.PolyAt(c.p, c.z)
		if !ok {
			t.Errorf("PolyAt %v of %v fails", c.z, c.p)
		}
		wantPair(t, "PolyAt", got, c.want)
	}
	wrong := []pointCase{
		{power(2, 1), 1e20}, {power(1, complex(0, greatest)), 2}, {polyOf(complex(minusGreat, 0), 2), complex(greatest, 0)},
	}
	for _, c := range append(wrong, notFinitePoints()...) {
		if got, ok := impl.PolyAt(c.p, c.z); ok || !samePair(got, 0) {
			t.Errorf("PolyAt %v of %v: %v, %v", c.z, c.p, got, ok)
		}
	}
}

func TestBoundAt(t *testing.T) {
	const place = 0x1p-23
	cases := []struct {
		p    impl.Poly
		z    complex64
		want float32
	}{
		{polyOf(0), 3, plusZero},
		{polyOf(complex(minusZero, 2)), 5, plusZero},
		{polyOf(complex(3, 4)), complex(greatest, greatest), plusZero},
		// e is 0.5, then 1 + 2, and then 6 + 3; 72 less 12 places.
		{polyOf(-1, 0, 1), 2, 60 * place},
		{polyOf(1, 1), 1, (8*2.5 - 8) * place},
		{polyOf(-1, 1), 1, 4 * place},
		{power(1, complex(3, 4)), complex(3, 4), (8*(12.5+25) - 100) * place},
		// v is 3, then 12 i, and then -48 + 3 i; e is 1.5, 18 and 72 + LongOf v.
		{polyOf(complex(0, 3), 0, 3), complex(0, 4), 768.3746337890625 * place},
		// Half of the least number is 0, and half of three times it is twice it.
		{power(1, complex(least, 0)), 0x1p100, 4 * 0x1p-72},
		{power(1, complex(3*least, 0)), 0x1p100, 28 * 0x1p-72},
		{polyOf(0x1p-149, 0x1p-149), 0, plusZero},
		{power(1, 0x1p-126), 1, 8 * least},
		// The greatest length whose four times are finite.
		{polyOf(complex(greatest/4, 0)), 1, plusZero},
	}
	for _, c := range cases {
		got, ok := impl.BoundAt(c.p, c.z)
		wantNumber(t, "BoundAt", got, ok, c.want)
	}
	wrong := []pointCase{
		{polyOf(complex(greatest, 0)), 1}, {polyOf(complex(greatest/2, 0)), 1}, {polyOf(complex(greatest, greatest)), 0},
		{power(1, 1e20), 1e18}, {power(2, 1e20), 1e10}, {power(1, 1), complex(greatest, greatest)},
	}
	for _, c := range append(wrong, notFinitePoints()...) {
		got, ok := impl.BoundAt(c.p, c.z)
		wantNoNumber(t, "BoundAt", got, ok)
	}
}

func TestSlopesAt(t *testing.T) {
	minus := complex(minusZero, minusZero)
	cases := []struct {
		p    impl.Poly
		z    complex64
		want []complex64
	}{
		{polyOf(-1, 0, 1), 2, []complex64{3, 4, 1}},
		{polyOf(1, 2, 3, 4), 1, []complex64{10, 20, 15, 4}},
		{polyOf(1, 0, 1), complex(0, 1), []complex64{0, complex(0, 2), 1}},
		{polyOf(5), 7, []complex64{5}},
		{polyOf(minus), 7, []complex64{minus}},
		{power(4, 1), 2, []complex64{16, 32, 24, 8, 1}},
		{polyOf(1, 2, 3), 0, []complex64{1, 2, 3}},
		// The term that comes to 0 is not trimmed, here the last one but one.
		{polyOf(1, -2, 1), 1, []complex64{0, 0, 1}},
		{polyOf(16777216, 1, 1), 1, []complex64{16777218, 3, 1}},
	}
	for _, c := range cases {
		got, ok := impl.SlopesAt(c.p, c.z)
		wantList(t, "SlopesAt", got, ok, c.want...)
	}
	got, ok := impl.SlopesAt(ones(impl.MaxTerms), 1)
	if !ok || len(got) != impl.MaxTerms || got[0] != 17 || got[1] != 136 || got[16] != 1 {
		t.Errorf("SlopesAt of the most terms: %v, %v", got, ok)
	}
	got, ok = impl.SlopesAt(power(2, 1), 1e20)
	wantNoList(t, "SlopesAt that overflows", got, ok)
	// The value is finite, but the slope is not.
	got, ok = impl.SlopesAt(polyOf(0, 0, complex(0.75*greatest, 0)), 1)
	wantNoList(t, "a slope that overflows", got, ok)
	for _, x := range infinities() {
		got, ok = impl.SlopesAt(polyOf(1), x)
		wantNoList(t, "SlopesAt what is not finite", got, ok)
	}
}

// manyPoints returns n complex numbers, no two of which are equal.
func manyPoints(n int) []complex64 {
	list := make([]complex64, n)
	for i := range list {
		list[i] = complex(float32(i)-100, float32(i*i%37)/8)
	}
	return list
}

func TestPolyPoints(t *testing.T) {
	p := polyOf(-1, 0, 1)
	got, ok := impl.PolyPoints(p, []complex64{0, complex(0, 1), 2, 0})
	wantList(t, "PolyPoints", got, ok, -1, -2, 3, -1)
	for _, none := range [][]complex64{nil, {}} {
		got, ok = impl.PolyPoints(p, none)
		wantList(t, "PolyPoints of none", got, ok)
	}
	got, ok = impl.PolyPoints(p, []complex64{1, 1e20, 2})
	wantNoList(t, "PolyPoints with a value that is not finite", got, ok)
	for _, x := range infinities() {
		got, ok = impl.PolyPoints(p, []complex64{1, 2, x})
		wantNoList(t, "PolyPoints of what is not finite", got, ok)
		got, ok = impl.PointsShared(p, []complex64{x, 1, 2}, 2)
		wantNoList(t, "PointsShared of what is not finite", got, ok)
	}
	list := manyPoints(impl.MaxNumbers + 1)
	got, ok = impl.PolyPoints(p, list)
	wantNoList(t, "PolyPoints of a long list", got, ok)
	got, ok = impl.PolyPoints(p, list[:impl.MaxNumbers])
	if !ok || len(got) != impl.MaxNumbers {
		t.Fatalf("PolyPoints of the longest list: %v, %v", got, ok)
	}
	for i, z := range list[:impl.MaxNumbers] {
		want, _ := impl.PolyAt(p, z)
		wantPair(t, "PolyPoints of the longest list", got[i], want)
	}
}

func TestPointsShared(t *testing.T) {
	p := polyOf(complex(1, 2), complex(-0.5, 0.25), complex(0.125, -3))
	for _, n := range []int{0, 1, 2, 7, 8, 9, 100, impl.MaxNumbers} {
		list := manyPoints(n)
		want, _ := impl.PolyPoints(p, list)
		for workers := int64(1); workers <= impl.MaxWorkers; workers++ {
			got, ok := impl.PointsShared(p, list, workers)
			wantList(t, "PointsShared", got, ok, want...)
		}
	}
	list := manyPoints(impl.MaxNumbers + 1)
	for _, workers := range []int64{-9223372036854775808, -1, 0, impl.MaxWorkers + 1, 9223372036854775807} {
		got, ok := impl.PointsShared(p, list[:3], workers)
		wantNoList(t, "PointsShared by no such workers", got, ok)
		got, ok = impl.PointsShared(p, nil, workers)
		wantNoList(t, "PointsShared of none by no such workers", got, ok)
	}
	for _, workers := range []int64{1, 2, impl.MaxWorkers} {
		got, ok := impl.PointsShared(p, list, workers)
		wantNoList(t, "PointsShared of a long list", got, ok)
		got, ok = impl.PointsShared(p, []complex64{0, 1, 2, 1e30, 3}, workers)
		wantNoList(t, "PointsShared with a value that is not finite", got, ok)
		got, ok = impl.PointsShared(p, []complex64{1e30}, workers)
		wantNoList(t, "PointsShared of one such value", got, ok)
	}
}

func TestPolyOfRoots(t *testing.T) {
	cases := []struct {
		list []complex64
		want impl.Poly
	}{
		{nil, polyOf(1)},
		{[]complex64{}, polyOf(1)},
		{[]complex64{2, 3}, polyOf(6, -5, 1)},
		{[]complex64{complex(0, 1), complex(0, -1)}, polyOf(1, 0, 1)},
		{[]complex64{complex(1, 2)}, polyOf(complex(-1, -2), 1)},
		// A term that is missing counts as +0, and what is taken from it is not -0.
		{[]complex64{0}, polyOf(0, 1)},
		{[]complex64{complex(minusZero, minusZero)}, polyOf(0, 1)},
		{[]complex64{0, 0, 0}, power(3, 1)},
		{make([]complex64, impl.MaxTerms-1), power(16, 1)},
		{repeated[complex64](-1, 4), polyOf(1, 4, 6, 4, 1)},
		{[]complex64{-4096, -4096, -1}, polyOf(16777216, 16785408, 8193, 1)},
		{[]complex64{-1, -4096, -4096}, polyOf(16777216, 16785408, 8193, 1)},
		{[]complex64{complex(near, 0), complex(-near, 0)}, polyOf(complex(-nearSquare, 0), 0, 1)},
	}
	for _, c := range cases {
		got, ok := impl.PolyOfRoots(c.list)
		wantPoly(t, "PolyOfRoots", got, ok, c.want.Terms...)
	}
	wrong := [][]complex64{
		make([]complex64, impl.MaxTerms), repeated[complex64](1, impl.MaxTerms), make([]complex64, 300),
		{1e20, 1e20}, {1e20, 1e20, 0}, {1e20, 1e20, 1e-20}, {complex(greatest, greatest), complex(1, 1)},
	}
	for _, x := range infinities() {
		wrong = append(wrong, []complex64{x}, []complex64{1, x}, []complex64{x, 0})
	}
	for _, list := range wrong {
		got, ok := impl.PolyOfRoots(list)
		wantNoPoly(t, "PolyOfRoots", got, ok)
	}
}

func TestLongOfPoly(t *testing.T) {
	cases := []struct {
		p    impl.Poly
		want float32
	}{
		{polyOf(-1, 0, 1), 2}, {polyOf(complex(3, -4), complex(0, -1)), 6}, {polyOf(0), plusZero}, {polyOf(complex(minusZero, minusZero)), plusZero},
		{ones(impl.MaxTerms), 17}, {polyOf(16777216, 1, 1), 16777216}, {polyOf(1, 1, 16777216), 16777218},
		{polyOf(complex(least, 0), complex(0, minusLeast)), 2 * least}, {polyOf(complex(greatest, 0), 1), greatest},
	}
	for _, c := range cases {
		got, ok := impl.LongOfPoly(c.p)
		wantNumber(t, "LongOfPoly", got, ok, c.want)
	}
	for _, p := range []impl.Poly{polyOf(complex(greatest, greatest)), polyOf(complex(greatest, 0), complex(greatest, 0))} {
		got, ok := impl.LongOfPoly(p)
		wantNoNumber(t, "LongOfPoly", got, ok)
	}
}

func TestRadii(t *testing.T) {
	cases := []struct {
		p              impl.Poly
		within, beyond float32
	}{
		{polyOf(-1, 0, 1), 2, 0.5},
		{polyOf(6, -5, 1), 7, 6.0 / 11},
		{polyOf(complex(3, 4), complex(0, -2)), 3.5, 5.0 / 7},
		{polyOf(complex(3, -4), 0, complex(0, 10), complex(0, 2)), 6, 1.0 / 3},
		{polyOf(complex(0, -1), complex(3, 4)), 1.2, 1.0 / 6},
		{polyOf(1, 3), 1 + float32(1)/3, 0.25},
		{polyOf(complex(1, minusZero), 0x1p-100), 0x1p100, 1},
		{polyOf(0x1p-100, 1, 1), 2, 0x1p-100},
	}
	for _, c := range cases {
		got, ok := impl.RootsWithin(c.p)
		wantNumber(t, "RootsWithin", got, ok, c.within)
		got, ok = impl.RootsBeyond(c.p)
		wantNumber(t, "RootsBeyond", got, ok, c.beyond)
	}
}

func TestRadiiAtTheEdge(t *testing.T) {
	long, great := complex(greatest, greatest), complex(greatest, 0)
	got, ok := impl.RootsWithin(power(3, 2))
	wantNumber(t, "RootsWithin of a single term", got, ok, 1)
	got, ok = impl.RootsWithin(polyOf(great, 1))
	wantNumber(t, "RootsWithin of a great term", got, ok, greatest)
	got, ok = impl.RootsBeyond(polyOf(complex(0.5, 0), great))
	wantNoNumber(t, "RootsBeyond with an infinite radius behind it", got, ok)
	// The last term is as long as to be infinite: all others are nothing to it.
	got, ok = impl.RootsWithin(polyOf(1, great, long))
	wantNumber(t, "RootsWithin of an infinite last length", got, ok, 1)
	got, ok = impl.RootsBeyond(polyOf(long, 1, great))
	wantNumber(t, "RootsBeyond of an infinite first length", got, ok, 1)
	within := []impl.Poly{
		polyOf(5), polyOf(0), polyOf(long, 1), polyOf(great, 0.5), polyOf(1, complex(least, 0)),
		// No quotient is the greatest one if one is not a number.
		polyOf(long, long), polyOf(1, long, long), polyOf(long, 1, long),
	}
	for _, p := range within {
		got, ok = impl.RootsWithin(p)
		wantNoNumber(t, "RootsWithin", got, ok)
	}
	beyond := []impl.Poly{
		polyOf(5), polyOf(0), polyOf(0, 1), polyOf(complex(minusZero, minusZero), 1, 1), polyOf(complex(least, 0), 1),
		polyOf(1, long), polyOf(long, long), polyOf(long, 1, long), polyOf(long, long, 1),
	}
	for _, p := range beyond {
		got, ok = impl.RootsBeyond(p)
		wantNoNumber(t, "RootsBeyond", got, ok)
	}
}
