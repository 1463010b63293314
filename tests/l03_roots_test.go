package tests

import (
	"math"
	"testing"

	"loop.example/g01358/impl"
)

type resultantCase struct {
	a, b impl.Whole
	want int64
}

func TestResultantOf(t *testing.T) {
	cases := []resultantCase{
		{whole(1, 1), whole(-3, 1), -4},
		{whole(-3, 1), whole(1, 1), 4},
		{whole(2, 3), whole(5, 7), 3*5 - 2*7},
		{whole(-1, 1), whole(4, 3, 2), 9},
		{whole(4, 3, 2), whole(-1, 1), 9},
		{whole(0, 1), whole(0, 5), 0},
		{whole(0, 20), whole(-20, 1), -400},
		{whole(1, 2, 1), whole(2, 2), 0},
		{whole(1, 0, 1), whole(-1, 0, 1), 4},
		{whole(0, 0, 1), whole(3, 0, 0, 1), 9},
		{whole(0, 0, 0, 0, 2), whole(3, 0, 0, 0, 5), 16 * 81},
		{whole(20, 20, 20, 20, 20), whole(20, -20, 20, -20, 20), 409600000000},
		{whole(20, 20, 20, 20, -20), whole(-20, 20, -20, -20, -20), 3686400000000},
	}
	for _, c := range cases {
		got, ok := impl.ResultantOf(c.a, c.b)
		wantInteger(t, plain("ResultantOf ", c.a, c.b), got, ok, c.want)
	}
	for _, p := range []impl.Whole{whole(0), whole(1), whole(20), whole(21, 1), whole(1, 21), whole(1, -21), whole(1, 1, -21, 1), whole(0, 0, 0, 0, 0, 1), wholeOnes(6), wholeOnes(17), whole(great, great)} {
		got, ok := impl.ResultantOf(p, whole(1, 1))
		wantNoInteger(t, plain("ResultantOf the first ", p), got, ok)
		got, ok = impl.ResultantOf(whole(1, 1), p)
		wantNoInteger(t, plain("ResultantOf the second ", p), got, ok)
	}
}

// TestResultantsOfProducts has the rules that resultants keep.
func TestResultantsOfProducts(t *testing.T) {
	s := &sweep{}
	of := func(a, b impl.Whole) int64 {
		got, ok := impl.ResultantOf(a, b)
		if !ok {
			t.Fatalf("ResultantOf %v and %v fails", a, b)
		}
		return got
	}
	for range 500 {
		a := times(whole(s.integer(4), 1), whole(s.integer(4), 1+int64(s.below(2))))
		b, c := whole(s.integer(3), s.integer(2), 1), whole(s.integer(3), 1+int64(s.below(3)))
		if d := times(b, c); of(a, d) != of(a, b)*of(a, c) || of(d, a) != of(a, d) || of(c, a) != of(a, c) {
			t.Errorf("resultants of %v, %v and %v do not fit together", a, b, c)
		}
		root := s.integer(20)
		value, _ := impl.WholeAt(b, root)
		if of(whole(-root, 1), b) != value {
			t.Errorf("the resultant of x - %d and %v is not its value %d", root, b, value)
		}
	}
}

func TestDiscriminantOf(t *testing.T) {
	cases := []struct {
		p    impl.Whole
		want int64
	}{
		{whole(-6, 1, 1), 25},
		{whole(1, 2, 1), 0},
		{whole(1, 0, 1), -4},
		{whole(3, 5, -2), 49},
		{whole(-3, -5, 2), 49},
		{whole(20, -20, 10), 400 - 800},
		{whole(20, 20, -10), 400 + 800},
		{whole(-1, 0, 0, 1), -27},
		{whole(0, -1, 0, 1), 4},
		{whole(0, 1, 0, -1), 4},
		{whole(5, -4, 1, 2), 16 + 4*64*2 - 4*5 - 27*25*4 - 18*2*4*5},
		{whole(-1, 0, 0, 0, 1), -256},
		{whole(4, 0, -5, 0, 1), 5184},
		{whole(20, 0, 0, 0, -5), 256 * (-125) * 8000},
	}
	for _, c := range cases {
		got, ok := impl.DiscriminantOf(c.p)
		wantInteger(t, plain("DiscriminantOf ", c.p), got, ok, c.want)
	}
	wrong := []impl.Whole{
		whole(0), whole(5), whole(1, 1), wholeOnes(6), wholePower(5, 1), whole(21, 0, 1), whole(0, 0, 21), whole(0, 21, 1),
		// The slope has a term beyond the bounds.
		whole(0, 0, 11), whole(0, 0, -11), whole(0, 0, 0, 7), whole(0, 0, 11, 1), whole(1, 1, 1, 1, 6), whole(0, 0, 0, 7, 1), wholePower(4, great),
	}
	for _, p := range wrong {
		got, ok := impl.DiscriminantOf(p)
		wantNoInteger(t, plain("DiscriminantOf ", p), got, ok)
	}
}

// TestDiscriminantsOfRoots compares with the squares of differences of roots.
func TestDiscriminantsOfRoots(t *testing.T) {
	s := &sweep{}
	for range 300 {
		a, b, c := s.integer(2), s.integer(2), s.integer(1)
		p := times(whole(-a, 1), whole(-b, 1), whole(-c, 1))
		want := (a - b) * (a - c) * (b - c)
		got, ok := impl.DiscriminantOf(p)
		wantInteger(t, plain("DiscriminantOf ", p), got, ok, want*want)
	}
}

func TestFractionRoots(t *testing.T) {
	cases := []struct {
		p    impl.Whole
		want []int64
	}{
		{whole(-6, 1, 1), []int64{-3, 1, 2, 1}},
		{whole(5), nil},
		{whole(-1000), nil},
		{whole(0, 7), []int64{0, 1}},
		{whole(1, 0, 1), nil},
		{whole(-2, 0, 1), nil},
		{whole(-1, 0, 4), []int64{-1, 2, 1, 2}},
		{whole(1, 0, -4), []int64{-1, 2, 1, 2}},
		{whole(1, 2, 1), []int64{-1, 1}},
		{whole(0, 0, -3, 2), []int64{0, 1, 3, 2}},
		{whole(-1, 1000), []int64{1, 1000}},
		{whole(1000, -1), []int64{1000, 1}},
		{whole(1000, 1000), []int64{-1, 1}},
		{whole(-999, 1000), []int64{999, 1000}},
		{whole(6, 4), []int64{-3, 2}},
		{whole(-6, -4), []int64{-3, 2}},
		{times(whole(0, 1), whole(1, 2), whole(-1, 3), whole(2, 3), whole(-5, 1)), []int64{-2, 3, -1, 2, 0, 1, 1, 3, 5, 1}},
		{times(whole(-2, 3), whole(-3, 4), whole(-5, 7)), []int64{2, 3, 5, 7, 3, 4}},
		{times(whole(-1, 1), whole(-1, 1), whole(1, 0, 1), whole(-1, 1)), []int64{1, 1}},
		{wholePower(16, -1000), []int64{0, 1}},
		{withLowest(wholePower(16, 1), -1), []int64{-1, 1, 1, 1}},
		{withLowest(wholePower(16, 1), 1), nil},
		{wholeOnes(16), []int64{-1, 1}},
		{wholeOnes(17), nil},
		{times(wholeOnes(8), whole(-1, 1), whole(1000)), []int64{-1, 1, 1, 1}},
	}
	for _, c := range cases {
		got, ok := impl.FractionRoots(c.p)
		wantIntegers(t, plain("FractionRoots ", c.p), got, ok, c.want...)
	}
	for _, p := range []impl.Whole{whole(0), whole(1001), whole(1, -1001), whole(0, 1001), whole(1, 1001, 1), wholePower(16, 1001), wholePower(16, -great)} {
		got, ok := impl.FractionRoots(p)
		wantNoIntegers(t, plain("FractionRoots ", p), got, ok)
	}
}

func TestCyclotomicOf(t *testing.T) {
	want := map[int64][]int64{
		1: {-1, 1}, 2: {1, 1}, 3: {1, 1, 1}, 4: {1, 0, 1}, 6: {1, -1, 1}, 9: {1, 0, 0, 1, 0, 0, 1}, 10: {1, -1, 1, -1, 1},
		12: {1, 0, -1, 0, 1}, 15: {1, -1, 0, 1, -1, 1, 0, -1, 1}, 16: wholePlusOne(8), 17: repeated[int64](1, 17),
		20: {1, 0, -1, 0, 1, 0, -1, 0, 1}, 21: {1, -1, 0, 1, -1, 0, 1, 0, -1, 1, 0, -1, 1}, 24: {1, 0, 0, 0, -1, 0, 0, 0, 1}, 30: {1, 1, 0, -1, -1, -1, 0, 1, 1},
	}
	for n, terms := range want {
		got, ok := impl.CyclotomicOf(n)
		wantWhole(t, plain("CyclotomicOf ", n), got, ok, terms...)
	}
	for _, n := range []int64{math.MinInt64, -1, 0, 19, 23, 25, 27, 29, 31, 32, 36, 60, math.MaxInt64} {
		got, ok := impl.CyclotomicOf(n)
		wantNoWhole(t, plain("CyclotomicOf ", n), got, ok)
	}
}

// wholePlusOne are the terms of x to the power k, plus 1.
func wholePlusOne(k int) []int64 {
	return withLowest(wholePower(k, 1), 1).Terms
}

// TestCyclotomicsMakePowers has x^n - 1 as the product of those of all
// divisors of n.
func TestCyclotomicsMakePowers(t *testing.T) {
	for n := int64(1); n <= 30; n++ {
		parts, complete := []impl.Whole{}, true
		for d := int64(1); d <= n; d++ {
			if n%d == 0 {
				part, ok := impl.CyclotomicOf(d)
				parts, complete = append(parts, part), complete && ok
			}
		}
		if !complete {
			continue
		}
		want := withLowest(wholePower(int(n), 1), -1)
		if got := times(parts...); !impl.SameWhole(got, want) {
			t.Errorf("those of all divisors of %d make %v", n, got)
		}
	}
}
