package tests

import (
	"math"
	"testing"

	"loop.example/g01358/impl"
)

func TestSineTurns(t *testing.T) {
	cases := [][2]uint32{
		{0x00000000, 0x00000000}, // 0
		{0x80000000, 0x80000000}, // -0
		{0x00000001, 0x00000006}, // the least number
		{0x80000001, 0x80000000}, // its opposite, plus 1, is 1
		{0x9e3ce508, 0x80000000}, // -1e-20
		{0xb3000000, 0xb4490fdb}, // -2^-25, which is not lost
		{0x3e000000, 0x3f3504f3}, // 1/8
		{0x3e800000, 0x3f800000}, // 1/4
		{0x3f000000, 0x80000000}, // 1/2
		{0x3f400000, 0xbf800000}, // 3/4
		{0x3f800000, 0x00000000}, // 1
		{0xbe800000, 0xbf800000}, // -1/4
		{0xbf000000, 0x80000000}, // -1/2
		{0xbf800000, 0x00000000}, // -1
		{0x3dcccccd, 0x3f167918}, // 0.1
		{0xbdcccccd, 0xbf167918}, // -0.1
		{0x3eaaaaab, 0x3f5db3d7}, // 1/3
		{0x3f2aaaab, 0xbf5db3d8}, // 2/3
		{0x3effffff, 0x34490fdb}, // just below 1/2
		{0x3f000001, 0xb4c90fdb}, // just above 1/2
		{0x3f7fffff, 0xb4c90fdb}, // just below 1
		{0x447a1333, 0x3f7379fe}, // 1000.3
		{0x4b000001, 0x00000000}, // 2^23 + 1
		{0x4a800001, 0x80000000}, // 2^22 + 1/2
		{0x597fffff, 0x00000000}, // just below 2^52
		{0x59800000, 0x00000000}, // 2^52
		{0xd9800000, 0x00000000}, // -2^52
		{0x7f7fffff, 0x00000000}, // the greatest number
		{0xff7fffff, 0x00000000}, // its opposite
		{0x7f800000, 0x7fc00000}, // infinity
		{0xff800000, 0x7fc00000}, // -infinity
		{0x7fc00000, 0x7fc00000}, // no number
	}
	for _, c := range cases {
		x := math.Float32frombits(c[0])
		wantFloat(t, "SineTurns", impl.SineTurns(x), math.Float32frombits(c[1]))
	}
}

func TestSineIsNearTheSine(t *testing.T) {
	s := &sweep{}
	for range 10000 {
		x := s.small()
		exact := math.Sin(2 * math.Pi * float64(x))
		if got := float64(impl.SineTurns(x)); math.Abs(got-exact) > 1e-7 {
			t.Fatalf("SineTurns(%g) = %g, but the sine is %g", x, got, exact)
		}
	}
}

type phasorCase struct {
	turns  float64
	re, im uint32
}

func phasorCases() []phasorCase {
	return []phasorCase{
		{0, 0x3f800000, 0x00000000},
		{math.Copysign(0, -1), 0x3f800000, 0x80000000},
		{0.125, 0x3f3504f3, 0x3f3504f3},
		{0.25, 0x00000000, 0x3f800000},
		{0.375, 0xbf3504f3, 0x3f3504f3},
		{0.5, 0xbf800000, 0x00000000},
		{0.625, 0xbf3504f3, 0xbf3504f3},
		{0.75, 0x00000000, 0xbf800000},
		{0.875, 0x3f3504f3, 0xbf3504f3},
		{1, 0x3f800000, 0x00000000},
		{-0.25, 0x00000000, 0xbf800000},
		{-0.5, 0xbf800000, 0x00000000},
		{-0.75, 0x00000000, 0x3f800000},
		{-1, 0x3f800000, 0x00000000},
		{2.5, 0xbf800000, 0x00000000},
		{1.0 / 3, 0xbf000000, 0x3f5db3d7},
		{0.1, 0x3f4f1bbd, 0x3f167918},
		{-0.1, 0x3f4f1bbd, 0xbf167918},
		{1e-300, 0x3f800000, 0x00000000},
		{1e-20, 0x3f800000, 0x1f945b86},
		// Fewer or more terms of the sine would round these elsewhere.
		{0.0033369457859133977, 0x3f7ff199, 0x3cabbf07},
		{0.0006651112753960076, 0x3f7fff6e, 0x3b88f009},
		// These, plus 1, are rounded to 1, which has four quarters.
		{-1e-300, 0x3f800000, 0x00000000},
		{-1e-17, 0x3f800000, 0x00000000},
		{0x1p52 - 0.5, 0xbf800000, 0x00000000},
		{0x1p52, 0x3f800000, 0x00000000},
		{0x1p52 + 1, 0x3f800000, 0x00000000},
		{0.5 - 0x1p52, 0xbf800000, 0x00000000},
		{-0x1p52, 0x3f800000, 0x00000000},
		{1e300, 0x3f800000, 0x00000000},
		{-1e300, 0x3f800000, 0x00000000},
		{math.Inf(1), 0x7fc00000, 0x7fc00000},
		{math.Inf(-1), 0x7fc00000, 0x7fc00000},
		{math.NaN(), 0x7fc00000, 0x7fc00000},
	}
}

func TestPhasorOf(t *testing.T) {
	for _, c := range phasorCases() {
		want := complex(math.Float32frombits(c.re), math.Float32frombits(c.im))
		wantPair(t, "PhasorOf", impl.PhasorOf(c.turns), want)
	}
}

type angleCase struct {
	y, x float32
	want uint32
}

func angleCases() []angleCase {
	return []angleCase{
		{plusZero, plusZero, 0}, {minusZero, plusZero, 0}, {plusZero, minusZero, 0}, {minusZero, minusZero, 0},
		{plusZero, 1, 0x00000000}, {minusZero, 1, 0x00000000}, // -0 is not less than 0
		{plusZero, -1, 0x3f000000}, {minusZero, -1, 0x3f000000},
		{1, plusZero, 0x3e800000}, {1, minusZero, 0x3e800000},
		{-1, plusZero, 0xbe800000}, {-1, minusZero, 0xbe800000},
		{1, 1, 0x3e000000}, {1, -1, 0x3ec00000}, {-1, 1, 0xbe000000}, {-1, -1, 0xbec00000},
		{1, 2, 0x3d972029}, {2, 1, 0x3e346fec}, {-3, 0.5, 0xbe6515bf}, {-0.5, -3, 0xbef28ae0},
		{least, 3e38, 0x00000000}, {minusLeast, 3e38, 0x80000000}, {least, -3e38, 0x3f000000},
		{3e38, least, 0x3e800000}, {least, least, 0x3e000000}, {least, plusZero, 0x3e800000},
		{0.1, 0.3, 0x3d51bfae}, {greatest, greatest, 0x3e000000}, {minusGreat, minusGreat, 0xbec00000},
		{plusInf, 1, 0x7fc00000}, {1, plusInf, 0x7fc00000}, {minusInf, minusInf, 0x7fc00000},
		{plusZero, minusInf, 0x7fc00000}, {nan, plusZero, 0x7fc00000}, {plusZero, nan, 0x7fc00000},
	}
}

func TestAngles(t *testing.T) {
	for _, c := range angleCases() {
		want := math.Float32frombits(c.want)
		wantFloat(t, "AngleTurns", impl.AngleTurns(c.y, c.x), want)
		wantFloat(t, "AngleOf", impl.AngleOf(complex(c.x, c.y)), want)
	}
}

func TestAnglesOfPhasors(t *testing.T) {
	s := &sweep{}
	for range 10000 {
		turns := float64(s.small()) / 8.5
		got := float64(impl.AngleOf(impl.PhasorOf(turns)))
		if math.Abs(got-turns) > 1e-7 {
			t.Fatalf("the phasor of %g turns has the angle %g", turns, got)
		}
	}
}

func TestTenthsOf(t *testing.T) {
	for _, x := range []float32{plusZero, minusZero, -1, minusLeast, minusGreat, plusInf, minusInf, nan, oddNaN} {
		if n, ok := impl.TenthsOf(x); ok || n != 0 {
			t.Errorf("TenthsOf(%g) = %d, %v", x, n, ok)
		}
	}
	cases := []struct {
		power float32
		want  int64
	}{
		{1, 0}, {10, 100}, {100, 200}, {1000, 300}, {2, 30}, {0.5, -30}, {0.1, -100},
		{1.01157, 0}, {1.0115795, 1}, {1.0116, 1}, {0.99, 0}, {0.9886, 0}, {0.98855, -1},
		{1.5, 18}, {0.75, -12}, {0.74999994, -12}, {least, -4485}, {leastNorm, -3793}, {greatest, 3853},
	}
	for _, c := range cases {
		if n, ok := impl.TenthsOf(c.power); !ok || n != c.want {
			t.Errorf("TenthsOf(%g) = %d, %v, want %d", c.power, n, ok, c.want)
		}
	}
}

func TestLogNumber(t *testing.T) {
	cases := []struct {
		x    float32
		want uint32
	}{
		{1, 0x00000000}, {2, 0x3f317218}, {0.5, 0xbf317218}, {1.5, 0x3ecf991f}, {1.4999999, 0x3ecf991d},
		{0.75, 0xbe934b11}, {0.74999994, 0xbe934b13}, {3, 0x3f8c9f54}, {10, 0x40135d8e}, {0.1, 0xc0135d8e},
		{2.7182817, 0x3f7fffff}, {1.0000001, 0x33ffffff}, {0.99999994, 0xb3800000},
		{least, 0xc2ce8ed0}, {leastNorm, 0xc2aeac50}, {greatest, 0x42b17218},
		{plusZero, 0xff800000}, {minusZero, 0xff800000}, {plusInf, 0x7f800000},
		{minusInf, 0x7fc00000}, {-1, 0x7fc00000}, {minusLeast, 0x7fc00000}, {nan, 0x7fc00000},
	}
	for _, c := range cases {
		wantFloat(t, "LogNumber", impl.LogNumber(c.x), math.Float32frombits(c.want))
	}
}

func TestExpNumber(t *testing.T) {
	after := math.Float32frombits(math.Float32bits(200) + 1)
	cases := []struct {
		x    float32
		want uint32
	}{
		{plusZero, 0x3f800000}, {minusZero, 0x3f800000}, {least, 0x3f800000},
		{1, 0x402df854}, {-1, 0x3ebc5ab2}, {0.5, 0x3fd3094c}, {10, 0x46ac14ee}, {-10, 0x383e6bce},
		{88.72283, 0x7f7fff84}, {88.72284, 0x7f800000}, {-87.33654, 0x00800026},
		{-100, 0x0000001b}, {-103.2, 0x00000001}, {-103.97, 0x00000001}, {-104, 0x00000000},
		{200, 0x7f800000}, {after, 0x7f800000}, {201, 0x7f800000}, {greatest, 0x7f800000}, {plusInf, 0x7f800000},
		{-200, 0x00000000}, {-after, 0x00000000}, {-201, 0x00000000}, {minusGreat, 0x00000000}, {minusInf, 0x00000000},
		{nan, 0x7fc00000},
	}
	for _, c := range cases {
		wantFloat(t, "ExpNumber", impl.ExpNumber(c.x), math.Float32frombits(c.want))
	}
}

// hardCase is a call whose 64-bit result is nearly in the middle of two 32-bit
// numbers: other numbers of terms, constants or orders round it elsewhere.
type hardCase struct {
	name string
	call func(x float32) float32
	x    uint32
	want uint32
}

func hardCases() []hardCase {
	slope := func(y float32) float32 { return impl.AngleTurns(y, 1) }
	other := func(y float32) float32 { return impl.AngleTurns(y, math.Float32frombits(0x3ff3e940)) }
	return []hardCase{
		{"SineTurns", impl.SineTurns, 0x3d7d7f58, 0x3ec21dd8},
		{"SineTurns", impl.SineTurns, 0x3d7876fb, 0x3ebe740a},
		{"SineTurns", impl.SineTurns, 0x3e434f37, 0x3f6e7421},
		{"SineTurns", impl.SineTurns, 0x3e5d0d36, 0x3f7a22f0},
		{"AngleTurns", slope, 0x3f693531, 0x3df0d332},
		{"AngleTurns", slope, 0x3eb11e2c, 0x3d591cf5},
		{"AngleTurns", other, 0x3f115a0f, 0x3d3cc7a6},
		{"LogNumber", impl.LogNumber, 0x3f04cbfc, 0xbf280706},
		{"LogNumber", impl.LogNumber, 0x3f091837, 0xbf1fdfa5},
		{"LogNumber", impl.LogNumber, 0x3fc20281, 0x3ed4ee00},
		{"ExpNumber", impl.ExpNumber, 0xc2ac0052, 0x01736c63},
		{"ExpNumber", impl.ExpNumber, 0xc2ae7135, 0x008fa9a1},
		{"ExpNumber", impl.ExpNumber, 0x4286088f, 0x6fcdbda3},
		{"ExpNumber", impl.ExpNumber, 0x42940fd7, 0x74df7d6c},
		{"ExpNumber", impl.ExpNumber, 0x423d1c5f, 0x6193c7d0},
		{"ExpNumber", impl.ExpNumber, 0x41902323, 0x4c7ecea8},
	}
}

func TestHardRoundings(t *testing.T) {
	for _, c := range hardCases() {
		got := c.call(math.Float32frombits(c.x))
		wantFloat(t, c.name, got, math.Float32frombits(c.want))
	}
}
