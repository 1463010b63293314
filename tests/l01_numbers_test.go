package tests

import (
	"math"
	"testing"

	"loop.example/g01358/impl"
)

func TestSameNumber(t *testing.T) {
	afterLeast := math.Float32frombits(2)
	cases := []struct {
		a, b float32
		want bool
	}{
		{1, 1, true}, {1, -1, false}, {1, afterOne, false}, {1, 2, false},
		{plusZero, plusZero, true}, {minusZero, minusZero, true}, {plusZero, minusZero, false}, {minusZero, plusZero, false},
		{plusZero, least, false}, {least, least, true}, {least, minusLeast, false}, {least, afterLeast, false},
		{plusInf, plusInf, true}, {minusInf, minusInf, true}, {plusInf, minusInf, false}, {plusInf, greatest, false},
		{nan, nan, true}, {nan, oddNaN, true}, {oddNaN, quietNaN, true},
		{nan, 1, false}, {1, nan, false}, {nan, plusInf, false}, {nan, plusZero, false}, {minusZero, nan, false},
	}
	for _, c := range cases {
		if got := impl.SameNumber(c.a, c.b); got != c.want {
			t.Errorf("SameNumber(%g, %g) = %v", c.a, c.b, got)
		}
		if got := impl.SameComplex(complex(c.a, 1), complex(c.b, 1)); got != c.want {
			t.Errorf("SameComplex with the real parts %g, %g = %v", c.a, c.b, got)
		}
		if got := impl.SameComplex(complex(1, c.a), complex(1, c.b)); got != c.want {
			t.Errorf("SameComplex with the imaginary parts %g, %g = %v", c.a, c.b, got)
		}
	}
}

func TestIsFinite(t *testing.T) {
	for _, x := range specials() {
		want := x-x == 0
		if got := impl.IsFinite(x); got != want {
			t.Errorf("IsFinite(%g) = %v", x, got)
		}
		for _, y := range specials() {
			both := want && y-y == 0
			if got := impl.IsFiniteComplex(complex(x, y)); got != both {
				t.Errorf("IsFiniteComplex(%g, %g) = %v", x, y, got)
			}
		}
	}
}

func TestBitsOf(t *testing.T) {
	cases := []struct {
		x    float32
		want int64
	}{
		{plusZero, 0}, {minusZero, 2147483648}, {1, 1065353216}, {-2, 3221225472},
		{least, 1}, {minusLeast, 2147483649}, {greatest, 2139095039}, {minusGreat, 4286578687},
		{plusInf, 2139095040}, {minusInf, 4286578688},
		{nan, 2143289344}, {oddNaN, 2143289344}, {quietNaN, 2143289344}, {math.Float32frombits(0xffffffff), 2143289344},
	}
	for _, c := range cases {
		if got := impl.BitsOf(c.x); got != c.want {
			t.Errorf("BitsOf(%g) = %d, want %d", c.x, got, c.want)
		}
	}
}

func TestFromBits(t *testing.T) {
	for _, n := range []int64{-1, 4294967296, math.MinInt64, math.MaxInt64, 1 << 32, 1<<32 + 0x3f800000} {
		if x, ok := impl.FromBits(n); ok || math.Float32bits(x) != 0 {
			t.Errorf("FromBits(%d) = %g, %v", n, x, ok)
		}
	}
	for _, n := range []int64{0x7fc00000, 0x7f800001, 0xff800001, 0xffc12345, 4294967295} {
		if x, ok := impl.FromBits(n); !ok || x == x {
			t.Errorf("FromBits(%d) = %g, %v", n, x, ok)
		}
	}
	s := &sweep{}
	for range 10000 {
		n := int64(s.bits())
		x, ok := impl.FromBits(n)
		if !ok || x == x && impl.BitsOf(x) != n || x == x && int64(math.Float32bits(x)) != n {
			t.Fatalf("FromBits(%d) = %g, %v", n, x, ok)
		}
	}
	for _, x := range specials() {
		if y, ok := impl.FromBits(impl.BitsOf(x)); !ok || !sameFloat(x, y) {
			t.Errorf("FromBits(BitsOf(%g)) = %g, %v", x, y, ok)
		}
	}
}

type narrowCase struct {
	x    float64
	want float32
}

func narrowCases() []narrowCase {
	minus := math.Copysign(0, -1)
	return []narrowCase{
		{0, 0},
		{minus, minusZero},
		{1, 1},
		{0.1, math.Float32frombits(0x3dcccccd)},
		{1 + 0x1p-24, 1},
		{1 + 0x1p-24 + 0x1p-52, afterOne},
		{1 + 3*0x1p-24, math.Float32frombits(0x3f800002)},
		{-1 - 3*0x1p-24, math.Float32frombits(0xbf800002)},
		{0x1p-149, least},
		{0x1p-150, 0},
		{-0x1p-150, minusZero},
		{0x1p-150 + 0x1p-200, least},
		{3 * 0x1p-150, math.Float32frombits(2)},
		{5 * 0x1p-150, math.Float32frombits(2)},
		{-5e-324, minusZero},
		{1e-300, 0},
		{0x1p-126 - 0x1p-150, leastNorm},
		{0x1p-126 - 3*0x1p-151, greatSub},
		{0x1.fffffep127, greatest},
		{0x1.fffffefffffffp127, greatest},
		{0x1.ffffffp127, plusInf},
		{-0x1.ffffffp127, minusInf},
		{1e300, plusInf},
		{math.Inf(1), plusInf},
		{math.Inf(-1), minusInf},
		{math.MaxFloat64, plusInf},
		{-math.MaxFloat64, minusInf},
		{math.NaN(), nan},
	}
}

func TestNarrowing(t *testing.T) {
	for _, c := range narrowCases() {
		wantFloat(t, "NarrowNumber", impl.NarrowNumber(c.x), c.want)
		wantPair(t, "NarrowComplex", impl.NarrowComplex(complex(c.x, 2)), complex(c.want, 2))
		wantPair(t, "NarrowComplex", impl.NarrowComplex(complex(2, c.x)), complex(2, c.want))
	}
}

func TestSubnormals(t *testing.T) {
	for _, x := range specials() {
		isSubnormal := x == least || x == minusLeast || x == greatSub || x == minusSub
		if got := impl.IsSubnormal(x); got != isSubnormal {
			t.Errorf("IsSubnormal(%g) = %v", x, got)
		}
		if !isSubnormal {
			wantFloat(t, "FlushNumber", impl.FlushNumber(x), x)
		}
	}
	for _, x := range []float32{least, greatSub, math.Float32frombits(0x00400000)} {
		wantFloat(t, "FlushNumber", impl.FlushNumber(x), plusZero)
		wantFloat(t, "FlushNumber", impl.FlushNumber(-x), minusZero)
	}
}

// TestSmallProducts multiplies all pairs of small complex integers.
func TestSmallProducts(t *testing.T) {
	const reach = 6
	for a := -reach; a <= reach; a++ {
		for b := -reach; b <= reach; b++ {
			for c := -reach; c <= reach; c++ {
				for d := -reach; d <= reach; d++ {
					x, y := complex(float32(a), float32(b)), complex(float32(c), float32(d))
					want := complex(float32(a*c-b*d), float32(a*d+b*c))
					if got := impl.MulComplex(x, y); got != want {
						t.Fatalf("%v times %v is %v", x, y, got)
					}
				}
			}
		}
	}
	wantPair(t, "great integers", impl.MulComplex(complex(4095, -4095), complex(4095, 4095)), complex(33538050, plusZero))
}

func TestMulComplex(t *testing.T) {
	near := float32(1 + 0x1p-12)
	cases := []struct {
		what       string
		x, y, want complex64
	}{
		{"example", complex(1, 2), complex(3, -1), complex(5, 5)},
		{"zeros of one sign", complex(plusZero, plusZero), complex(plusZero, plusZero), complex(plusZero, plusZero)},
		{"-0 times 0", complex(minusZero, plusZero), complex(plusZero, plusZero), complex(minusZero, plusZero)},
		{"-0 - 0 i times 1", complex(minusZero, minusZero), complex(1, plusZero), complex(plusZero, minusZero)},
		{"-0 - 0 i times i", complex(minusZero, minusZero), complex(plusZero, 1), complex(plusZero, minusZero)},
		{"1 times -1 + 0 i", complex(1, plusZero), complex(-1, plusZero), complex(-1, plusZero)},
		{"cancelled", complex(near, near), complex(near, near), complex(plusZero, 2+0x1p-10)},
		{"cancelled to a rest", complex(near, 1), complex(near, 1+0x1p-11), complex(0x1p-24, 2+0x1p-10)},
		{"great ones less great ones", complex(greatest, greatest), complex(2, 1), complex(greatest, plusInf)},
		{"subnormal parts", complex(least, plusZero), complex(0.75, 0.5), complex(least, plusZero)},
		{"parts below all", complex(leastNorm, plusZero), complex(-0x1p-24, 0x1p-23), complex(minusZero, least)},
		{"infinite", complex(plusInf, plusZero), complex(1, plusZero), complex(plusInf, nan)},
		{"infinite and -infinite", complex(plusInf, 1), complex(2, minusInf), complex(plusInf, minusInf)},
		{"no number", complex(nan, 1), complex(1, 1), complex(nan, nan)},
	}
	for _, c := range cases {
		wantPair(t, c.what, impl.MulComplex(c.x, c.y), c.want)
	}
}

func TestScaleComplex(t *testing.T) {
	third := float32(1) / 3
	wantPair(t, "scaled", impl.ScaleComplex(complex(1, 2), 0.5), complex(0.5, 1))
	wantPair(t, "rounded", impl.ScaleComplex(complex(third, -third), third), complex(math.Float32frombits(0x3de38e3a), math.Float32frombits(0xbde38e3a)))
	wantPair(t, "by -0", impl.ScaleComplex(complex(1, -1), minusZero), complex(minusZero, plusZero))
	wantPair(t, "zeros", impl.ScaleComplex(complex(minusZero, plusZero), 3), complex(minusZero, plusZero))
	wantPair(t, "subnormal", impl.ScaleComplex(complex(least, 3*least), 0.5), complex(plusZero, 2*least))
	wantPair(t, "by infinity", impl.ScaleComplex(complex(plusZero, -1), plusInf), complex(nan, minusInf))
	wantPair(t, "overflow", impl.ScaleComplex(complex(greatest, minusGreat), 2), complex(plusInf, minusInf))
	wantPair(t, "no number", impl.ScaleComplex(complex(1, plusInf), nan), complex(nan, nan))
}

func TestConjugateOf(t *testing.T) {
	for _, x := range specials() {
		want := complex(x, math.Float32frombits(math.Float32bits(x)^0x80000000))
		wantPair(t, "conjugate", impl.ConjugateOf(complex(x, x)), want)
	}
}

func TestPowerAndLong(t *testing.T) {
	cases := []struct {
		x           complex64
		power, long float32
	}{
		{complex(3, 4), 25, 5},
		{complex(-3, -4), 25, 5},
		{complex(minusZero, minusZero), plusZero, plusZero},
		{complex(least, plusZero), plusZero, least},
		{complex(plusZero, minusLeast), plusZero, least},
		{complex(3*least, 4*least), plusZero, 5 * least},
		{complex(0x1p-75, plusZero), plusZero, 0x1p-75},
		{complex(plusZero, 0x1.000002p-75), least, 0x1.000002p-75},
		{complex(0x1.8p-75, 0x1p-75), math.Float32frombits(2), 0x1.cd82b4p-75},
		{complex(greatest, plusZero), plusInf, greatest},
		{complex(greatest, greatest), plusInf, plusInf},
		{complex(0x1p100, plusZero), plusInf, 0x1p100},
		{complex(1, 1), 2, math.Float32frombits(0x3fb504f3)},
		{complex(4096, 1), 16777216, 4096},
		{complex(4097, 2), 16785412, 4097.00048828125},
		{complex(plusInf, minusInf), plusInf, plusInf},
		{complex(minusInf, 1), plusInf, plusInf},
		{complex(plusInf, nan), nan, nan},
		{complex(nan, plusZero), nan, nan},
	}
	for _, c := range cases {
		wantFloat(t, "PowerOf", impl.PowerOf(c.x), c.power)
		wantFloat(t, "LongOf", impl.LongOf(c.x), c.long)
	}
}

func TestQuotientOf(t *testing.T) {
	cases := []struct {
		what       string
		x, y, want complex64
	}{
		{"example", complex(0, 4), 2, complex(0, 2)},
		{"by a complex number", complex(5, 5), complex(3, -1), complex(1, 2)},
		{"rounded", 1, 3, complex(math.Float32frombits(0x3eaaaaab), plusZero)},
		{"by 0", complex(1, 2), complex(plusZero, plusZero), complex(nan, nan)},
		{"0 by 0", 0, 0, complex(nan, nan)},
		{"infinity by 0", complex(plusInf, plusZero), complex(plusZero, minusZero), complex(nan, nan)},
		{"1 by -1", complex(1, plusZero), complex(-1, plusZero), complex(-1, minusZero)},
		{"-0 by 1", complex(minusZero, plusZero), complex(1, plusZero), complex(plusZero, plusZero)},
		{"-0 - 0 i by i", complex(minusZero, minusZero), complex(plusZero, 1), complex(minusZero, plusZero)},
		{"subnormal by subnormal", complex(3*least, plusZero), complex(2*least, plusZero), complex(1.5, plusZero)},
		{"great by great", complex(greatest, greatest), complex(greatest, greatest), complex(1, plusZero)},
		{"great by small", complex(greatest, plusZero), complex(0.5, plusZero), complex(plusInf, plusZero)},
		{"small by great", complex(minusLeast, plusZero), complex(greatest, plusZero), complex(minusZero, plusZero)},
		{"by infinity", complex(1, 1), complex(plusInf, plusZero), complex(nan, nan)},
		{"infinity by 1", complex(plusInf, plusZero), complex(1, plusZero), complex(plusInf, nan)},
		{"no number", complex(nan, 1), complex(1, plusZero), complex(nan, nan)},
	}
	for _, c := range cases {
		wantPair(t, c.what, impl.QuotientOf(c.x, c.y), c.want)
	}
}

func TestRootNumber(t *testing.T) {
	cases := [][2]float32{
		{9, 3}, {2, math.Float32frombits(0x3fb504f3)}, {plusZero, plusZero}, {minusZero, minusZero},
		{least, math.Float32frombits(0x1a3504f3)}, {minusLeast, nan}, {-1, nan}, {plusInf, plusInf},
		{minusInf, nan}, {nan, nan}, {greatest, math.Float32frombits(0x5f7fffff)},
	}
	for _, c := range cases {
		wantFloat(t, "RootNumber", impl.RootNumber(c[0]), c[1])
	}
}
