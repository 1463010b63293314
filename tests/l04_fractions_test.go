package tests

import (
	"testing"

	"loop.example/g01358/impl"
)

// threeTimes has the root 1 three times, and -1 once. Without 1, it has greater
// terms at last.
func threeTimes() impl.Real {
	return realTimes(realOf(1000), realOf(1, -1), realOf(1, 0, -1), realOf(1, 0, 0, 0, 0, -1))
}

func TestRatioRoots(t *testing.T) {
	cases := []struct {
		r    impl.Real
		want []int64
	}{
		{realOf(7), nil}, {realOf(-greatTerm), nil}, {realOf(0, 1), []int64{0, 1}}, {realOf(0, 0, 1), []int64{0, 1}}, {realOf(-2, 0, 1), nil}, {realOf(1, 0, 1), nil},
		{realOf(-1, -1, 2), []int64{-1, 2, 1, 1}}, {realOf(-6, 1, 1), []int64{-3, 1, 2, 1}}, {realOf(6, -1, -1), []int64{-3, 1, 2, 1}}, {realOf(2, -4), []int64{1, 2}}, {realOf(4, 6), []int64{-2, 3}},
		{realOf(-999, 1000), []int64{999, 1000}}, {realOf(1000, 1), []int64{-1000, 1}}, {realOf(1, -1000), []int64{1, 1000}}, {realOf(1000, -1000), []int64{1, 1}}, {realOf(1000, 0, -1000), []int64{-1, 1, 1, 1}},
		{realOf(1, -2, 1), []int64{1, 1}}, {realTimes(realOf(1, 2, 1), realOf(-2, 0, 1), realOf(3, -2)), []int64{-1, 1, 3, 2}}, {realOf(1, -8, 28, -56, 70, -56, 28, -8, 1), []int64{1, 1}}, {realPower(8, -3), []int64{0, 1}},
		{realOf(0, -36, 0, 49, 0, -14, 0, 1), []int64{-3, 1, -2, 1, -1, 1, 0, 1, 1, 1, 2, 1, 3, 1}}, {realTimes(realOf(-1, 2), realOf(1, 2), realOf(-1, 3), realOf(1, 3), realOf(-1, 4), realOf(1, 4)), []int64{-1, 2, -1, 3, -1, 4, 1, 4, 1, 3, 1, 2}},
		{threeTimes(), []int64{-1, 1, 1, 1}}, {eightRoots(), nil}, {realOf(0, 0, 0, 36, -1000), []int64{0, 1, 9, 250}},
	}
	for _, c := range cases {
		got, ok := impl.RatioRoots(c.r)
		wantIntegers(t, plain("RatioRoots ", c.r), got, ok, c.want...)
	}
}

func TestDivideRoot(t *testing.T) {
	cases := []struct {
		r    impl.Real
		at   place
		want []int64
	}{
		{realOf(-1, -1, 2), place{-1, 2}, []int64{-1, 1}}, {realOf(-1, -1, 2), place{1, 1}, []int64{1, 2}}, {realOf(0, 0, 1), place{0, 1}, []int64{0, 1}}, {realOf(0, -5), place{0, 1}, []int64{-5}},
		{realOf(1, -1), place{1, 1}, []int64{-1}}, {realOf(-999, 1000), place{999, 1000}, []int64{1}}, {realOf(999, -1000), place{999, 1000}, []int64{-1}}, {realOf(2, -4), place{1, 2}, []int64{-2}}, {realOf(1000, 1), place{-1000, 1}, []int64{1}},
		{realOf(1, -2, 1), place{1, 1}, []int64{-1, 1}}, {realOf(-1, 0, 0, 0, 0, 0, 0, 0, 1), place{1, 1}, []int64{1, 1, 1, 1, 1, 1, 1, 1}}, {realOf(-1, 0, 0, 0, 0, 0, 0, 0, 1), place{-1, 1}, []int64{-1, 1, -1, 1, -1, 1, -1, 1}},
		// The greatest term of the quotient is 1000.
		{realOf(-500, -500, 500, 500), place{1, 1}, []int64{500, 1000, 500}}, {realOf(500, 500, -500, -500), place{1, 1}, []int64{-500, -1000, -500}},
	}
	for _, c := range cases {
		got, ok := impl.DivideRoot(c.r, c.at[0], c.at[1])
		wantReal(t, plain("DivideRoot ", c), got, ok, c.want...)
	}
	wrong := []struct {
		r  impl.Real
		at place
	}{
		// No root.
		{realOf(-2, 0, 1), place{1, 1}}, {realOf(5), place{0, 1}}, {realOf(5), place{5, 1}}, {realOf(-1, -1, 2), place{1, 2}}, {realOf(-1, -1, 2), place{-1, 1}}, {realOf(-1, 1), place{greatPart, 999999}}, {realOf(1, 1), place{1, greatPart}}, {realOf(0, 1), place{1, 1}},
		// A common factor.
		{realOf(-1, -1, 2), place{2, 2}}, {realOf(-1, -1, 2), place{-2, 4}}, {realOf(-2, 4), place{2, 4}}, {realOf(0, 1), place{0, 2}}, {realOf(0, 2), place{0, 2}}, {realOf(-1, 1), place{greatPart, greatPart}}, {realOf(-500, 1000), place{500, 1000}},
		// The quotient has a term of 1001, or of 2000.
		{realOf(-500, -501, 501, 500), place{1, 1}}, {realOf(500, 501, -501, -500), place{1, 1}}, {threeTimes(), place{-1, 1}},
	}
	for _, c := range wrong {
		got, ok := impl.DivideRoot(c.r, c.at[0], c.at[1])
		wantNoReal(t, plain("DivideRoot ", c), got, ok)
	}
	for _, at := range wrongPlaces() {
		got, ok := impl.DivideRoot(realOf(0, 1), at[0], at[1])
		wantNoReal(t, plain("DivideRoot ", at), got, ok)
	}
}

func TestOftenRoot(t *testing.T) {
	cases := []struct {
		r    impl.Real
		at   place
		want int64
	}{
		{realOf(0, 0, 1), place{0, 1}, 2}, {realOf(-1, -1, 2), place{1, 1}, 1}, {realOf(-1, -1, 2), place{-1, 2}, 1}, {realOf(-1, -1, 2), place{1, 2}, 0}, {realOf(-2, 0, 1), place{1, 1}, 0}, {realOf(5), place{5, 1}, 0}, {realOf(-5), place{0, 1}, 0},
		{realOf(1, -8, 28, -56, 70, -56, 28, -8, 1), place{1, 1}, 8}, {realPower(8, -greatTerm), place{0, 1}, 8}, {realOf(1, -4, 4), place{1, 2}, 2}, {realOf(2, -8, 8), place{1, 2}, 2}, {realOf(0, 0, 3, 1), place{0, 1}, 2}, {realOf(0, 0, 3, 1), place{-3, 1}, 1},
		{realTimes(realOf(-2, 3), realOf(-2, 3), realOf(-2, 3), realOf(1, 5)), place{2, 3}, 3}, {realTimes(realOf(-2, 3), realOf(-2, 3), realOf(-2, 3), realOf(1, 5)), place{-1, 5}, 1}, {realOf(1000, -1000, 250), place{2, 1}, 2},
		{realOf(-1, 1), place{greatPart, 999999}, 0}, {realOf(-1, 1), place{-greatPart, 1}, 0}, {realOf(0, 1), place{1, greatPart}, 0},
		// Quotients with greater terms than a Real.
		{realOf(-500, -501, 501, 500), place{1, 1}, 1}, {threeTimes(), place{1, 1}, 3}, {threeTimes(), place{-1, 1}, 1}, {realTimes(realOf(1000), realOf(1, 0, 0, -1), realOf(1, 0, 0, 0, -1)), place{1, 1}, 2},
	}
	for _, c := range cases {
		got, ok := impl.OftenRoot(c.r, c.at[0], c.at[1])
		wantInteger(t, plain("OftenRoot ", c), got, ok, c.want)
	}
	common := []place{{2, 2}, {0, 2}, {-4, 2}, {4, 6}, {greatPart, greatPart}, {500, 1000}, {0, greatPart}}
	for _, at := range append(wrongPlaces(), common...) {
		for _, r := range []impl.Real{realOf(0, 1), realOf(-1, 1), realOf(-2, 2), realOf(5)} {
			got, ok := impl.OftenRoot(r, at[0], at[1])
			wantNoInteger(t, plain("OftenRoot ", r, at), got, ok)
		}
	}
}
