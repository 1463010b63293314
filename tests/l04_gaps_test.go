package tests

import (
	"math"
	"math/big"
	"testing"

	"loop.example/g01358/impl"
)

func TestIsolateRoots(t *testing.T) {
	cases := []struct {
		r    impl.Real
		want []impl.Gap
	}{
		{realOf(5), nil}, {realOf(-greatTerm), nil}, {realOf(1, 0, 1), nil}, {realOf(2, -88, 968, 0, 0, 0, 0, 0, 1), nil},
		{realOf(0, 1), []impl.Gap{gap(-2, 2, 0)}}, {realPower(8, -1), []impl.Gap{gap(-2, 2, 0)}}, {realOf(1, -2, 1), []impl.Gap{gap(-4, 4, 0)}}, {realOf(-greatTerm, 1), []impl.Gap{gap(-1024, 1024, 0)}},
		{realOf(-2, 0, 1), []impl.Gap{gap(-8, 0, 1), gap(0, 8, 1)}}, {realOf(-1, -1, 2), []impl.Gap{gap(-4, 0, 1), gap(0, 4, 1)}}, {realOf(greatTerm, greatTerm, -1), []impl.Gap{gap(-2048, 0, 1), gap(0, 2048, 1)}},
		// A root at the middle is in the former half.
		{realOf(0, -1, 1), []impl.Gap{gap(-8, 0, 1), gap(0, 8, 1)}}, {realOf(0, 1, 1), []impl.Gap{gap(-16, -8, 3), gap(-8, 0, 3)}},
		{realOf(2, -3, 1), []impl.Gap{gap(0, 16, 4), gap(16, 32, 4)}}, {realOf(0, -1, 0, 1), []impl.Gap{gap(-16, -8, 3), gap(-8, 0, 3), gap(0, 8, 1)}},
		// Roots that are there twice count once.
		{realOf(4, 0, -4, 0, 1), []impl.Gap{gap(-16, 0, 1), gap(0, 16, 1)}}, {realOf(0, 0, 4, 0, -4, 0, 1), []impl.Gap{gap(-32, -16, 4), gap(-16, 0, 4), gap(0, 16, 1)}},
		{realOf(0, -36, 0, 49, 0, -14, 0, 1), []impl.Gap{gap(-512, -384, 7), gap(-384, -256, 7), gap(-256, -128, 7), gap(-128, 0, 7), gap(0, 128, 7), gap(128, 256, 7), gap(128, 256, 6)}},
		{eightRoots(), []impl.Gap{gap(-64, -56, 6), gap(-56, -48, 6), gap(-24, -16, 5), gap(-8, 0, 4), gap(0, 8, 4), gap(16, 24, 5), gap(48, 56, 6), gap(56, 64, 6)}},
		// Roots that are told apart at the last shift.
		{nearRoots()[0], []impl.Gap{gap(48803840, 48805888, 30), gap(48805888, 48807936, 30), gap(2048, 4096, 10)}},
		{nearRoots()[1], []impl.Gap{gap(-1024, 0, 1), gap(63160320, 63161344, 30), gap(63161344, 63162368, 30), gap(1024, 2048, 9)}},
	}
	for _, c := range cases {
		got, ok := impl.IsolateRoots(c.r)
		wantGaps(t, plain("IsolateRoots ", c.r), got, ok, c.want...)
	}
	for _, r := range tooNearRoots() {
		got, ok := impl.IsolateRoots(r)
		wantNoGaps(t, plain("IsolateRoots ", r), got, ok)
		near, ok := impl.RootsNear(r)
		if ok || len(near) != 0 {
			t.Errorf("RootsNear %v: got %v, %v, but it must fail", r, near, ok)
		}
	}
}

func validGaps() []impl.Gap {
	return []impl.Gap{
		gap(0, 1, 0), gap(-1, 0, 0), gap(-1, 1, 30), gap(-4, 4, 0), gap(1, 2, 5), gap(-greatEnd, greatEnd, 0), gap(-greatEnd, greatEnd, 30), gap(greatEnd-1, greatEnd, 0), gap(-greatEnd, -greatEnd+1, 30), gap(0, greatEnd, 29), gap(-8, 0, 1),
	}
}

func invalidGaps() []impl.Gap {
	return []impl.Gap{
		{}, gap(1, 1, 0), gap(1, 0, 0), gap(-greatEnd-1, 0, 0), gap(0, greatEnd+1, 0), gap(greatEnd, greatEnd, 0), gap(greatEnd, greatEnd+1, 0), gap(-greatEnd-1, -greatEnd, 0), gap(0, 1, -1), gap(0, 1, 31), gap(0, 1, 64), gap(-1, 1, math.MaxInt64), gap(-1, 1, math.MinInt64),
		gap(math.MinInt64, math.MaxInt64, 0), gap(math.MinInt64, 0, 0), gap(0, math.MaxInt64, 0), gap(math.MaxInt64, math.MinInt64, 0), gap(greatEnd, -greatEnd, 0),
	}
}

func TestValidGap(t *testing.T) {
	for _, g := range validGaps() {
		if !impl.ValidGap(g) {
			t.Errorf("%v is not valid", g)
		}
	}
	for _, g := range invalidGaps() {
		if impl.ValidGap(g) {
			t.Errorf("%v is valid", g)
		}
	}
}

func TestInvalidGapsFail(t *testing.T) {
	r := realOf(-1, 2)
	for _, g := range invalidGaps() {
		holds, ok := impl.HoldsRoot(r, g)
		wantNoAnswer(t, plain("HoldsRoot ", g), holds, ok)
		for _, shift := range []int64{0, 1, impl.MaxShift} {
			narrow, ok := impl.NarrowGap(r, g, shift)
			wantNoGap(t, plain("NarrowGap ", g, shift), narrow, ok)
		}
		middle, ok := impl.MiddleOf(g)
		wantNoNumber(t, plain("MiddleOf ", g), middle, ok)
	}
}

func TestHoldsRoot(t *testing.T) {
	two := realOf(2, -3, 1)
	often := realTimes(realOf(1, -2, 1), realOf(-8, 12, -6, 1))
	cases := []struct {
		r    impl.Real
		g    impl.Gap
		want bool
	}{
		{realOf(-2, 0, 1), gap(1, 2, 0), true}, {realOf(-2, 0, 1), gap(-4, 4, 0), false}, {realOf(-2, 0, 1), gap(2, 3, 0), false}, {realOf(-2, 0, 1), gap(3, 6, 2), true}, {realOf(-2, 0, 1), gap(3, 5, 2), false},
		{two, gap(1, 2, 0), true}, {two, gap(0, 1, 0), true}, {two, gap(0, 2, 0), false}, {two, gap(2, 3, 0), false}, {two, gap(1<<30, 1<<31, 30), true}, {two, gap(1<<30-1, 1<<31, 30), false}, {two, gap(1<<30, 1<<31-1, 30), false},
		{often, gap(1, 2, 0), true}, {often, gap(0, 1, 0), true}, {often, gap(0, 2, 0), false}, {often, gap(2, 3, 0), false}, {often, gap(1, 3, 1), true}, {often, gap(2, 3, 1), false},
		{realOf(5), gap(-greatEnd, greatEnd, 0), false}, {realOf(1, 0, 1), gap(-greatEnd, greatEnd, 0), false}, {realOf(0, 1), gap(-greatEnd, greatEnd, 0), true}, {realOf(0, 1), gap(-greatEnd, 0, 0), true}, {realOf(0, 1), gap(0, greatEnd, 0), false},
		{realOf(-greatTerm, 1), gap(0, greatEnd, 30), true}, {realOf(-greatTerm, 1), gap(0, 1000<<30-1, 30), false}, {realOf(-greatTerm, 1), gap(1000<<30, greatEnd, 30), false}, {realPower(8, greatTerm), gap(-greatEnd, greatEnd, 30), true},
		{eightRoots(), gap(-greatEnd, greatEnd, 30), false}, {nearRoots()[0], gap(48803840, 48805888, 30), true}, {nearRoots()[0], gap(48803840, 48807936, 30), false}, {tooNearRoots()[3], gap(1, 1<<10, 8), false},
	}
	for _, c := range cases {
		got, ok := impl.HoldsRoot(c.r, c.g)
		wantAnswer(t, plain("HoldsRoot ", c), got, ok, c.want)
	}
}

func TestNarrowGap(t *testing.T) {
	root, zero, one := realOf(-2, 0, 1), realOf(0, 1), realOf(-1, 1)
	cases := []struct {
		r     impl.Real
		g     impl.Gap
		shift int64
		want  impl.Gap
	}{
		{root, gap(1, 2, 0), 2, gap(5, 6, 2)}, {root, gap(1, 2, 0), 0, gap(1, 2, 0)}, {root, gap(1, 2, 0), 1, gap(2, 3, 1)}, {root, gap(1, 2, 0), 30, gap(1518500249, 1518500250, 30)},
		{root, gap(5, 6, 2), 2, gap(5, 6, 2)}, {root, gap(5, 6, 2), 1, gap(5, 6, 2)}, {root, gap(5, 6, 2), 0, gap(5, 6, 2)}, {root, gap(0, 2, 0), 1, gap(2, 4, 1)}, {root, gap(0, 3, 0), 1, gap(0, 3, 1)}, {root, gap(-3, 0, 0), 2, gap(-6, -3, 2)},
		{root, gap(1518500249, 1518500250, 30), 30, gap(1518500249, 1518500250, 30)}, {root, gap(0, greatEnd, 30), 3, gap(0, greatEnd, 30)}, {root, gap(0, greatEnd, 29), 30, gap(0, greatEnd, 30)},
		// Roots at the middle and at the high end.
		{one, gap(0, 2, 0), 1, gap(0, 2, 1)}, {one, gap(0, 2, 0), 2, gap(2, 4, 2)}, {one, gap(0, 2, 0), 30, gap(1<<30-2, 1<<30, 30)}, {one, gap(0, 1, 0), 30, gap(1<<30-1, 1<<30, 30)},
		{realOf(1, -2, 1), gap(0, 2, 0), 30, gap(1<<30-2, 1<<30, 30)}, {zero, gap(-1, 1, 0), 1, gap(-2, 0, 1)}, {zero, gap(-1, 1, 0), 30, gap(-2, 0, 30)}, {zero, gap(-1, 2, 0), 2, gap(-1, 2, 2)},
		// Ends that reach 2^40, but never go beyond.
		{zero, gap(-greatEnd, greatEnd, 0), 0, gap(-greatEnd, greatEnd, 0)}, {zero, gap(-greatEnd/2, greatEnd/2, 0), 30, gap(-greatEnd, 0, 30)}, {one, gap(0, greatEnd, 0), 30, gap(0, greatEnd, 30)}, {realOf(1, 1), gap(-greatEnd, 0, 0), 30, gap(-greatEnd, 0, 30)},
		{zero, gap(-greatEnd, 1, 0), 1, gap(-greatEnd+1, 2, 1)}, {realOf(-greatTerm, 1), gap(0, 1024, 0), 30, gap(999<<30+1<<30-1024, 1000<<30, 30)},
	}
	for _, c := range cases {
		got, ok := impl.NarrowGap(c.r, c.g, c.shift)
		wantGap(t, plain("NarrowGap ", c), got, ok, c.want)
	}
	wrong := []struct {
		r     impl.Real
		g     impl.Gap
		shift int64
	}{
		{root, gap(1, 2, 0), -1}, {root, gap(1, 2, 0), 31}, {root, gap(1, 2, 0), math.MinInt64}, {root, gap(1, 2, 0), math.MaxInt64}, {root, gap(1, 2, 30), -1},
		// No root, and two.
		{root, gap(-4, 4, 0), 2}, {root, gap(-4, 4, 0), 0}, {root, gap(2, 3, 0), 2}, {root, gap(2, 3, 0), 0}, {one, gap(1, 2, 0), 3}, {realOf(5), gap(0, 1, 0), 0}, {realOf(2, -3, 1), gap(0, 2, 0), 0}, {eightRoots(), gap(-1, 1, 0), 30},
		// A half goes beyond 2^40.
		{zero, gap(-greatEnd, greatEnd, 0), 1}, {zero, gap(-greatEnd, greatEnd, 0), 30}, {zero, gap(-greatEnd, greatEnd, 29), 30}, {zero, gap(-greatEnd, greatEnd-1, 0), 1}, {one, gap(-greatEnd, greatEnd, 0), 1}, {zero, gap(-greatEnd/2-1, greatEnd/2+1, 0), 1},
	}
	for _, c := range wrong {
		got, ok := impl.NarrowGap(c.r, c.g, c.shift)
		wantNoGap(t, plain("NarrowGap ", c), got, ok)
	}
}

func TestMiddleOf(t *testing.T) {
	cases := []struct {
		g    impl.Gap
		want float32
	}{
		{gap(5, 6, 2), 1.375}, {gap(0, 1, 0), 0.5}, {gap(-1, 0, 0), -0.5}, {gap(-4, 4, 0), 0}, {gap(-greatEnd, greatEnd, 30), 0}, {gap(0, 1, 30), 0x1p-31}, {gap(-1, 0, 30), -0x1p-31}, {gap(1, 2, 30), 0x1.8p-30},
		{gap(0, greatEnd, 0), 0x1p39}, {gap(-greatEnd, 0, 30), -512}, {gap(greatEnd-1, greatEnd, 0), 0x1p40}, {gap(-greatEnd, -greatEnd+1, 30), -1024},
		// Ties go to even ones: 2^24 + 1, 2^24 + 3, and these and a half.
		{gap(1<<24, 1<<24+2, 0), 16777216}, {gap(1<<24+2, 1<<24+4, 0), 16777220}, {gap(1<<24+1, 1<<24+2, 0), 16777218}, {gap(1<<24+2, 1<<24+3, 0), 16777218}, {gap(-1<<24-2, -1<<24, 0), -16777216}, {gap(-1<<24-2, -1<<24-1, 5), -524288.0625},
		{gap(1<<39, 1<<39+1<<16, 0), 0x1p39}, {gap(1<<39, 1<<39+1<<16+1, 0), 0x1.000002p39},
	}
	for _, c := range cases {
		got, ok := impl.MiddleOf(c.g)
		wantNumber(t, plain("MiddleOf ", c.g), got, ok, c.want)
	}
	s := &sweep{}
	for range 1000 {
		low := int64(s.bits())<<8 - 1<<39
		g := gap(low, low+1+int64(s.bits())>>s.below(32), int64(s.below(31)))
		got, ok := impl.MiddleOf(g)
		want, _ := big.NewRat(g.Low+g.High, 2<<g.Shift).Float32()
		wantNumber(t, plain("MiddleOf ", g), got, ok, want)
	}
}

func TestRootsNear(t *testing.T) {
	cases := []struct {
		r    impl.Real
		want []float32
	}{
		{realOf(7), nil}, {realOf(1, 0, 1), nil}, {realOf(0, 1), []float32{-0x1p-29}}, {realOf(-1, 1), []float32{1}}, {realOf(1, -2, 1), []float32{1}}, {realOf(-3, 1), []float32{3}}, {realOf(-1000, 1), []float32{1000}}, {realOf(-999, 1000), []float32{0.999}},
		{realOf(-2, 0, 1), []float32{-math.Sqrt2, math.Sqrt2}}, {realOf(4, 0, -4, 0, 1), []float32{-math.Sqrt2, math.Sqrt2}}, {realOf(0, -1, 0, 1), []float32{-1, -0x1p-28, 1}}, {realOf(0, 0, 4, 0, -4, 0, 1), []float32{-math.Sqrt2, -0x1p-27, math.Sqrt2}},
		{realOf(1000, 1000, -1), []float32{math.Float32frombits(0xbf7fbe90), math.Float32frombits(0x447a3ff0)}},
		{nearRoots()[0], []float32{math.Float32frombits(0x3d3a2d00), math.Float32frombits(0x3d3a2f00), math.Float32frombits(0x407bf6ac)}},
	}
	for _, c := range cases {
		got, ok := impl.RootsNear(c.r)
		if !ok || len(got) != len(c.want) {
			t.Fatalf("RootsNear %v: got %v, %v, want %v", c.r, got, ok, c.want)
		}
		for i, x := range got {
			wantFloat(t, plain("RootsNear ", c.r, i), x, c.want[i])
		}
	}
	cosines, ok := impl.RootsNear(eightRoots())
	if !ok || len(cosines) != 8 {
		t.Fatalf("the cosines are %v, %v", cosines, ok)
	}
	for i, x := range cosines {
		wantFloat(t, "a cosine", x, float32(math.Cos(float64(15-2*i)*math.Pi/16)))
	}
}
