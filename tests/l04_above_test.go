package tests

import (
	"math"
	"math/big"
	"testing"

	"loop.example/g01358/impl"
)

func TestIsAbove(t *testing.T) {
	cases := []struct {
		r    impl.Real
		want bool
	}{
		{realOf(1), true}, {realOf(greatTerm), true}, {realOf(-1), false}, {realOf(1, 0, 1), true}, {realOf(-1, 0, -1), false}, {realOf(0, 1), false}, {realOf(5, 1), false}, {realOf(-2, 0, 1), false}, {realOf(2, 0, -1), false}, {realOf(1, -1, 1), true}, {realOf(1, 2, -1), false},
		// They touch 0 without changing sign.
		{realOf(0, 0, 1), false}, {realOf(1, -2, 1), false}, {realOf(4, 0, -4, 0, 1), false}, {realOf(1, -8, 28, -56, 70, -56, 28, -8, 1), false}, {realOf(2, -88, 968), false}, {realOf(-1, 2, -1), false},
		// They come near to it.
		{realOf(2, -88, 968, 0, 0, 0, 0, 0, 1), true}, {realOf(-2, 88, -968, 0, 0, 0, 0, 0, -1), false}, {realOf(2, -88, 968, 0, 0, 0, 0, -1), false}, {realOf(3, -88, 968), true}, {realOf(1, -88, 968), false}, {realOnes(9), true}, {realOnes(8), false}, {realOf(1000, 999, 998, 997, 996, 995, 994, 993, 1000), true},
	}
	for _, c := range cases {
		got, ok := impl.IsAbove(c.r)
		wantAnswer(t, plain("IsAbove ", c.r), got, ok, c.want)
	}
}

func TestIsAboveOn(t *testing.T) {
	root, touch := realOf(-2, 0, 1), realOf(1, -2, 1)
	cases := []struct {
		r            impl.Real
		low, high, d int64
		want         bool
	}{
		{root, 2, 3, 1, true}, {root, 1, 3, 1, false}, {root, -1, 1, 1, false}, {root, -3, -2, 1, true}, {root, -3, 3, 1, false}, {root, 2, 2, 1, true}, {root, 1, 1, 1, false}, {root, 707107, greatPart, 500000, true}, {root, 707106, greatPart, 500000, false},
		// A root at either end.
		{realOf(-1, 1), 1, 2, 1, false}, {realOf(-1, 1), 1, 1, 1, false}, {realOf(-1, 1), greatPart, greatPart, greatPart, false}, {realOf(-1, 1), 2, 3, 1, true}, {realOf(2, -1), 1, 2, 1, false}, {realOf(2, -1), 3, 5, 3, true}, {realOf(2, -1), 3, 6, 3, false}, {realOf(2, -1), 3, 7, 3, false},
		{touch, 0, 2, 1, false}, {touch, 1, 2, 1, false}, {touch, 0, 1, 1, false}, {touch, 1, 1, 1, false}, {touch, 2, 3, 1, true}, {touch, -greatPart, 999999, greatPart, true}, {touch, 3, 4, 2, true}, {touch, -greatPart, greatPart, 1, false},
		{realOf(1), -greatPart, greatPart, 1, true}, {realOf(-1), 0, 0, 1, false}, {realOf(1, 0, 1), -greatPart, greatPart, 1, true}, {realOf(-1, 0, -1), -greatPart, greatPart, 1, false}, {realOf(2, -88, 968), 45454, 45455, greatPart, false}, {realOf(2, -88, 968), 45455, 45456, greatPart, true},
		{realOf(2, -88, 968, 0, 0, 0, 0, 0, 1), -greatPart, greatPart, 1, true}, {realOf(2, -88, 968, 0, 0, 0, 0, 0, -1), 45454, 45455, greatPart, false}, {realOf(2, -88, 968, 0, 0, 0, 0, 0, -1), 45455, 45456, greatPart, true}, {realOf(2, -88, 968, 0, 0, 0, 0, 0, -1), 0, 45454, greatPart, true},
	}
	for _, c := range cases {
		got, ok := impl.IsAboveOn(c.r, c.low, c.high, c.d)
		wantAnswer(t, plain("IsAboveOn ", c), got, ok, c.want)
	}
	for _, c := range [][3]int64{{3, 2, 1}, {greatPart, -greatPart, 1}, {2, greatPart + 1, 1}, {-greatPart - 1, -2, 1}, {2, 3, 0}, {2, 3, -1}, {-3, -2, -1}, {2, 3, greatPart + 1}, {2, 3, math.MinInt64}, {2, 3, math.MaxInt64}, {math.MinInt64, math.MaxInt64, 1}} {
		got, ok := impl.IsAboveOn(realOf(5), c[0], c[1], c[2])
		wantNoAnswer(t, plain("IsAboveOn ", c), got, ok)
	}
}

func TestLeastOn(t *testing.T) {
	root, touch := realOf(-2, 0, 1), realOf(1, 0, -2, 0, 1)
	cases := []struct {
		r         impl.Real
		low, high int64
		want      int64
		value     float32
	}{
		{root, -1, 3, 0, -2}, {root, 1, 3, 1, -1}, {root, -50, -2, -2, 2}, {root, 50, 50, 50, 2498}, {root, -50, -50, -50, 2498}, {realOf(0, 1), -50, 50, -50, -50}, {realOf(0, -1), -50, 50, 50, -50}, {realOf(3, -1), 0, 3, 3, 0}, {realOf(-3, 1), 3, 5, 3, 0},
		// Least values that are there more than once.
		{realOf(7), -50, 50, -50, 7}, {realOf(-7), 3, 9, 3, -7}, {realOf(0, -1, 1), -5, 5, 0, 0}, {realOf(0, 1, 1), -5, 5, -1, 0}, {touch, -5, 5, -1, 0}, {touch, 0, 5, 1, 0}, {realOf(0, 0, -1), -4, 4, -4, -16}, {realOf(0, 0, -1), -3, 4, 4, -16}, {eightRoots(), -1, 1, -1, 1},
		// Values that are no 32-bit numbers: ties, and numbers just beside
		// them, which rounding twice would make ties.
		{realOf(17, -6, 11, -16, 3), 50, 50, 50, 16777216}, {realOf(19, -6, 11, -16, 3), 50, 50, 50, 16777220}, {realOf(-17, 6, -11, 16, -3), 49, 50, 50, -16777216},
		{realOf(-3, 14, 0, -5, -5, 20, 22, 8, 461), 50, 50, 50, math.Float32frombits(0x5a800007)}, {realOf(-4, 14, 0, -5, -5, 20, 22, 8, 461), 50, 50, 50, math.Float32frombits(0x5a800006)}, {realOf(3, -14, 0, 5, 5, -20, -22, -8, -461), -49, 50, 50, math.Float32frombits(0xda800007)},
		{realOf(3, 16, 7, 24, 8, 18, -22, 11, 461), 50, 50, 50, math.Float32frombits(0x5a800309)}, {realOf(4, 16, 7, 24, 8, 18, -22, 11, 461), 50, 50, 50, math.Float32frombits(0x5a80030a)},
		{realPower(8, greatTerm), 49, 50, 49, 33232930569601000}, {realPower(8, -greatTerm), -50, 50, -50, -39062500000000000}, {realOf(repeated[int64](-greatTerm, 9)...), -50, 50, 50, -39859693877551020},
	}
	for _, c := range cases {
		place, value, ok := impl.LeastOn(c.r, c.low, c.high)
		wantInteger(t, plain("LeastOn ", c), place, ok, c.want)
		wantFloat(t, plain("the value of LeastOn ", c), value, c.value)
	}
	for _, r := range validReals() {
		for low := int64(-50); low <= 50; low += 9 {
			high := low + (50-low)/2
			want, least := low, ratAt(ratTerms(r), big.NewRat(low, 1))
			for x := low; x <= high; x++ {
				if value := ratAt(ratTerms(r), big.NewRat(x, 1)); value.Cmp(least) < 0 {
					want, least = x, value
				}
			}
			nearest, _ := least.Float32()
			place, value, ok := impl.LeastOn(r, low, high)
			wantInteger(t, plain("LeastOn ", r, low, high), place, ok, want)
			wantFloat(t, plain("the value of LeastOn ", r, low, high), value, nearest)
		}
	}
	for _, c := range [][2]int64{{3, 2}, {50, -50}, {-51, 0}, {0, 51}, {51, 51}, {-51, -51}, {math.MinInt64, 0}, {0, math.MaxInt64}, {math.MaxInt64, math.MinInt64}, {math.MinInt64, math.MaxInt64}} {
		place, value, ok := impl.LeastOn(root, c[0], c[1])
		wantNoInteger(t, plain("LeastOn ", c), place, ok)
		wantNoNumber(t, plain("LeastOn ", c), value, ok)
	}
}

func TestRootsShared(t *testing.T) {
	all := rootCounts()
	for n := range 17 {
		list, want := []impl.Real{}, []int64{}
		for i := range n {
			c := all[(5*i+n)%len(all)]
			list, want = append(list, c.r), append(want, c.want)
		}
		for _, workers := range counts() {
			got, ok := impl.RootsShared(list, workers)
			wantIntegers(t, plain("RootsShared ", list, workers), got, ok, want...)
		}
		for _, workers := range wrongCounts() {
			got, ok := impl.RootsShared(list, workers)
			wantNoIntegers(t, plain("RootsShared ", list, workers), got, ok)
		}
	}
	for _, n := range []int{17, 18, 300} {
		got, ok := impl.RootsShared(repeated(realOf(-2, 0, 1), n), 2)
		wantNoIntegers(t, plain("RootsShared of many ", n), got, ok)
	}
	for _, wrong := range invalidReals() {
		for _, i := range []int{0, 7, 15} {
			list := repeated(realOf(-2, 0, 1), 16)
			list[i] = wrong
			for _, workers := range counts() {
				got, ok := impl.RootsShared(list, workers)
				wantNoIntegers(t, plain("RootsShared ", list, workers), got, ok)
			}
		}
	}
}

func TestRootsSharedOfNone(t *testing.T) {
	for _, list := range [][]impl.Real{nil, {}} {
		for _, workers := range counts() {
			got, ok := impl.RootsShared(list, workers)
			wantIntegers(t, plain("RootsShared of none ", workers), got, ok)
		}
		for _, workers := range wrongCounts() {
			got, ok := impl.RootsShared(list, workers)
			wantNoIntegers(t, plain("RootsShared of none ", workers), got, ok)
		}
	}
}

func TestPolyOfReal(t *testing.T) {
	p, ok := impl.PolyOfReal(realOf(-2, 0, 1))
	wantPoly(t, "PolyOfReal of x^2 - 2", p, ok, -2, 0, 1)
	for _, r := range validReals() {
		want := []complex64{}
		for _, term := range r.Terms {
			want = append(want, complex(float32(term), plusZero))
		}
		got, ok := impl.PolyOfReal(r)
		wantPoly(t, plain("PolyOfReal ", r), got, ok, want...)
		if !impl.ValidPoly(got) {
			t.Errorf("PolyOfReal %v is not valid", r)
		}
	}
}
