package tests

import (
	"testing"

	"loop.example/g01358/impl"
)

// pairCase has two wholes, and what a function makes of them; nothing if it
// fails.
type pairCase struct {
	a, b impl.Whole
	want []int64
}

func wantPairs(t *testing.T, name string, call func(a, b impl.Whole) (impl.Whole, bool), cases []pairCase) {
	t.Helper()
	for _, c := range cases {
		got, ok := call(c.a, c.b)
		if what := plain(name, " ", c.a, c.b); c.want == nil {
			wantNoWhole(t, what, got, ok)
		} else {
			wantWhole(t, what, got, ok, c.want...)
		}
	}
}

func TestExactQuotient(t *testing.T) {
	wantPairs(t, "ExactQuotient", impl.ExactQuotient, []pairCase{
		{whole(1, 2, 1), whole(1, 1), []int64{1, 1}},
		{whole(-1, 0, 0, 1), whole(-1, 1), []int64{1, 1, 1}},
		{whole(6, -9), whole(-3), []int64{-2, 3}},
		{whole(6), whole(-3), []int64{-2}},
		{whole(0), whole(-3), []int64{0}},
		{whole(0), whole(1, 1), []int64{0}},
		{whole(0), wholePower(16, great), []int64{0}},
		{whole(0, 0, 4), whole(0, 2), []int64{0, 2}},
		{whole(5, 7), whole(5, 7), []int64{1}},
		{wholePower(16, great), wholePower(16, 1), []int64{great}},
		{wholePower(16, great), whole(1), wholePower(16, great).Terms},
		{wholePower(16, great), whole(-great), wholePower(16, -1).Terms},
		{whole(-500000, -500000, 500000, 500000), whole(-1, 1), []int64{500000, great, 500000}},
		{whole(500000, 500000, -500000, -500000), whole(-1, 1), []int64{-500000, -great, -500000}},
		// The quotient is not valid.
		{whole(-500001, -500000, 500000, 500001), whole(-1, 1), nil},
		{whole(-great, 0, great), whole(0), nil},
		{whole(0), whole(0), nil},
		{whole(1, 1), whole(1, 2, 1), nil},
		{whole(1), whole(0, 1), nil},
		{whole(5, 2, 1), whole(1, 1), nil},
		{whole(1, 1), whole(2), nil},
		{whole(2, 3), whole(2), nil},
		{whole(3, 2), whole(2), nil},
		{whole(1, 2, 1), whole(2, 2), nil},
		{whole(0, 1), whole(1, 1), nil},
		{whole(1, 3, 2), whole(2, 4), nil},
		// The terms of no quotient would be greater than all integers.
		{wholePower(16, 1), whole(great, 1), nil},
		{wholePower(16, 1), whole(1<<16, 1), nil},
		{whole(repeated[int64](great, 17)...), whole(-great, 1), nil},
	})
}

func TestCommonWhole(t *testing.T) {
	wantPairs(t, "CommonWhole", impl.CommonWhole, []pairCase{
		{whole(1, 2, 1), whole(2, 2), []int64{1, 1}},
		{whole(2, 2), whole(1, 2, 1), []int64{1, 1}},
		{whole(-1, 0, 1), whole(1, 2, 1), []int64{1, 1}},
		{whole(1, -1), whole(-1, 1), []int64{-1, 1}},
		{whole(-1, 0, 1), whole(1, 0, 1), []int64{1}},
		{whole(-1, 0, 0, 0, 0, 0, 1), whole(-1, 0, 0, 0, 1), []int64{-1, 0, 1}},
		{times(whole(3, 2), whole(5, 1)), times(whole(3, 2), whole(7, 0, 4)), []int64{3, 2}},
		// The contents have a common one, too.
		{whole(12, 18), whole(-20, -30), []int64{4, 6}},
		{whole(6, 6), whole(4, 8, 4), []int64{2, 2}},
		{whole(6, 6), whole(35, 0, 70), []int64{1}},
		{whole(6, 6), whole(10, 0, 10), []int64{2}},
		{whole(great, great), whole(-great, -great), []int64{great, great}},
		// Wholes of one term, and 0.
		{whole(4), whole(6), []int64{2}},
		{whole(-4), whole(-6), []int64{2}},
		{whole(1), wholeOnes(17), []int64{1}},
		{whole(6), whole(4, 8), []int64{2}},
		{whole(4, 8), whole(-6), []int64{2}},
		{wholeOnes(17), whole(great), []int64{1}},
		{whole(0), whole(0), []int64{0}},
		{whole(0), whole(-4), []int64{4}},
		{whole(-4), whole(0), []int64{4}},
		{whole(0), whole(6, -4), []int64{-6, 4}},
		{whole(6, -4), whole(0), []int64{-6, 4}},
		{wholePower(16, -great), whole(0), wholePower(16, great).Terms},
		{whole(0, 0, 6), whole(0, 4), []int64{0, 2}},
		{wholePower(16, great), wholePower(15, great), wholePower(15, great).Terms},
	})
}

// TestCommonOnesOnTheWay has wholes whose common one is small, but not always
// what the steps to it lead to.
func TestCommonOnesOnTheWay(t *testing.T) {
	wantPairs(t, "CommonWhole", impl.CommonWhole, []pairCase{
		{whole(1, 1000), whole(-999, 1000), []int64{1}},
		{whole(1, 1000), whole(-1000, 1), nil},
		{whole(-1, 1000), whole(1000, 1), nil},
		// The rest itself is 0.
		{whole(1, 1000, 1, 1000), whole(1, 1000), []int64{1, 1000}},
		{whole(1, 1001, 1, 1001), whole(1, 1001), nil},
		{whole(1, 1001), whole(1, 1001, 1, 1001), nil},
		// The terms are those of the primitive ones.
		{whole(500, 500000), whole(-499500, 500000), []int64{500}},
		{whole(great, great), whole(great, 0, great), []int64{great}},
		// The first one is first if the degrees are equal.
		{whole(-2, 1, -16), whole(-18, 2, -9), []int64{1}},
		{whole(-18, 2, -9), whole(-2, 1, -16), nil},
		{whole(10, 7, -18), whole(-16, -1, -1), []int64{1}},
		{whole(-16, -1, -1), whole(10, 7, -18), nil},
	})
}

func TestSquareFree(t *testing.T) {
	cases := []struct {
		p    impl.Whole
		want []impl.Whole
	}{
		{whole(1, 2, 1), []impl.Whole{whole(1), whole(1, 1)}},
		{whole(0, 1), []impl.Whole{whole(0, 1)}},
		{whole(-5, -5), []impl.Whole{whole(1, 1)}},
		{whole(0, 0, 0, -7), []impl.Whole{whole(1), whole(1), whole(0, 1)}},
		{whole(-1, 0, 1), []impl.Whole{whole(-1, 0, 1)}},
		{whole(4, 8, 4), []impl.Whole{whole(1), whole(1, 1)}},
		{times(whole(0, 1), whole(1, 1), whole(1, 1), whole(-2, 1), whole(-2, 1), whole(-2, 1)), []impl.Whole{whole(0, 1), whole(1, 1), whole(-2, 1)}},
		{times(whole(3, 2), whole(3, 2), whole(-1, 5)), []impl.Whole{whole(-1, 5), whole(3, 2)}},
		{times(whole(1, 1, 1), whole(1, 1, 1), whole(-1, 1)), []impl.Whole{whole(-1, 1), whole(1, 1, 1)}},
		{times(whole(-3), whole(1, 1), whole(1, 1), whole(1, 1), whole(1, 1), whole(2, 1)), []impl.Whole{whole(2, 1), whole(1), whole(1), whole(1, 1)}},
		{wholePower(16, 1), append(repeated(whole(1), 15), whole(0, 1))},
		{wholePower(16, -great), append(repeated(whole(1), 15), whole(0, 1))},
		{withLowest(wholePower(16, 62500), 1), []impl.Whole{withLowest(wholePower(16, 62500), 1)}},
	}
	for _, c := range cases {
		got, ok := impl.SquareFree(c.p)
		wantWholes(t, plain("SquareFree ", c.p), got, ok, c.want...)
	}
	wrong := []impl.Whole{
		whole(0), whole(1), whole(5), whole(-great),
		// The slope is not valid.
		withLowest(wholePower(16, 62501), 1),
		// The steps to the common one with the slope lead beyond the bounds.
		whole(1, 1000, 1001), whole(7, 999, 0, 1000),
	}
	for _, p := range wrong {
		got, ok := impl.SquareFree(p)
		wantNoWholes(t, plain("SquareFree ", p), got, ok)
	}
}

// withLowest returns p with another lowest term.
func withLowest(p impl.Whole, lowest int64) impl.Whole {
	terms := append([]int64{lowest}, p.Terms[1:]...)
	return impl.Whole{Terms: terms}
}
