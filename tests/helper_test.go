package tests

import (
	"math"
	"testing"
)

// Numbers with names, as variables: a constant has no -0, and the compiler
// would tell what is built of constants exactly.
var (
	plusZero   = math.Float32frombits(0)
	minusZero  = math.Float32frombits(0x80000000)
	plusInf    = math.Float32frombits(0x7f800000)
	minusInf   = math.Float32frombits(0xff800000)
	nan        = math.Float32frombits(0x7fc00000)
	oddNaN     = math.Float32frombits(0xffc12345)
	quietNaN   = math.Float32frombits(0x7f800001)
	least      = math.Float32frombits(1)
	minusLeast = math.Float32frombits(0x80000001)
	greatSub   = math.Float32frombits(0x007fffff)
	minusSub   = math.Float32frombits(0x807fffff)
	leastNorm  = math.Float32frombits(0x00800000)
	minusNorm  = math.Float32frombits(0x80800000)
	greatest   = math.Float32frombits(0x7f7fffff)
	minusGreat = math.Float32frombits(0xff7fffff)
	afterOne   = math.Float32frombits(0x3f800001)
)

// specials are the numbers with which every function is called.
func specials() []float32 {
	return []float32{
		plusZero, minusZero, plusInf, minusInf, nan, oddNaN, quietNaN, least, minusLeast,
		greatSub, minusSub, leastNorm, minusNorm, greatest, minusGreat, afterOne,
		1, -1, 0.5, -0.5, 0.25, 3, -7.5, 200, -200, 201, -201, 1e30, 4503599627370496,
	}
}

// sameFloat is the tests' own SameNumber.
func sameFloat(a, b float32) bool {
	if a != a || b != b {
		return a != a && b != b
	}
	return math.Float32bits(a) == math.Float32bits(b)
}

func samePair(a, b complex64) bool {
	return sameFloat(real(a), real(b)) && sameFloat(imag(a), imag(b))
}

func wantFloat(t *testing.T, what string, got, want float32) {
	t.Helper()
	if !sameFloat(got, want) {
		t.Errorf("%s: got %g (%08x), want %g (%08x)", what, got, math.Float32bits(got), want, math.Float32bits(want))
	}
}

func wantPair(t *testing.T, what string, got, want complex64) {
	t.Helper()
	if !samePair(got, want) {
		t.Errorf("%s: got %v (%08x %08x), want %v (%08x %08x)", what,
			got, math.Float32bits(real(got)), math.Float32bits(imag(got)),
			want, math.Float32bits(real(want)), math.Float32bits(imag(want)))
	}
}

// repeated returns a list of n equal items.
func repeated[T any](item T, n int) []T {
	list := make([]T, n)
	for i := range list {
		list[i] = item
	}
	return list
}

// sweep gives numbers that look arbitrary, the same ones in every run.
type sweep struct {
	state uint32
}

func (s *sweep) bits() uint32 {
	s.state = s.state*1664525 + 1013904223
	return s.state ^ s.state>>16
}

// any gives a number with any bits.
func (s *sweep) any() float32 {
	return math.Float32frombits(s.bits())
}

// small gives a number from -4 to 4.
func (s *sweep) small() float32 {
	return float32(int32(s.bits())>>8) * 0x1p-21
}

// wide gives a 64-bit number from -4 to 4.
func (s *sweep) wide() float64 {
	high := float64(int32(s.bits())) * 0x1p-29
	return high + float64(s.bits())*0x1p-61
}

// digest tells many results by one number.
type digest uint64

func (d *digest) add(n uint64) {
	*d = (*d ^ digest(n)) * 1099511628211
}

func (d *digest) float(x float32) {
	if x != x {
		x = nan
	}
	d.add(uint64(math.Float32bits(x)))
}

func (d *digest) pair(x complex64) {
	d.float(real(x))
	d.float(imag(x))
}
