package tests

import (
	"testing"

	"loop.example/g01358/impl"
)

// overCase has what a function makes of two wholes over a prime; nothing if it
// fails.
type overCase struct {
	a, b  impl.Whole
	prime int64
	want  []int64
}

func wantOver(t *testing.T, name string, call func(a, b impl.Whole, prime int64) (impl.Whole, bool), cases []overCase) {
	t.Helper()
	for _, c := range cases {
		got, ok := call(c.a, c.b, c.prime)
		if what := plain(name, " ", c.a, c.b, c.prime); c.want == nil {
			wantNoWhole(t, what, got, ok)
		} else {
			wantWhole(t, what, got, ok, c.want...)
		}
	}
}

func TestOverPrime(t *testing.T) {
	call := func(a, _ impl.Whole, prime int64) (impl.Whole, bool) { return impl.OverPrime(a, prime) }
	wantOver(t, "OverPrime", call, []overCase{
		{whole(-1, 5, 4), whole(), 2, []int64{1, 1}},
		{whole(-1, 5, 4), whole(), 3, []int64{2, 2, 1}},
		{whole(-1, 5, 4), whole(), 13, []int64{12, 5, 4}},
		{whole(0), whole(), 7, []int64{0}},
		{whole(7), whole(), 7, []int64{0}},
		{whole(-7, 14, 7), whole(), 7, []int64{0}},
		{whole(6, 7, 8, 14), whole(), 7, []int64{6, 0, 1}},
		{whole(great, -great), whole(), 11, []int64{1, 10}},
		{whole(-11), whole(), 13, []int64{2}},
		{whole(repeated[int64](-great, 17)...), whole(), 13, repeated[int64](12, 17)},
		{wholePower(16, 13), whole(), 13, []int64{0}},
	})
}

func TestMulOver(t *testing.T) {
	wantOver(t, "MulOver", impl.MulOver, []overCase{
		{whole(1, 1), whole(1, 1), 2, []int64{1, 0, 1}},
		{whole(1, 1), whole(1, 1), 3, []int64{1, 2, 1}},
		{whole(12, 12), whole(12), 13, []int64{1, 1}},
		{whole(3, 4), whole(2, 3), 5, []int64{1, 2, 2}},
		{whole(0), whole(1, 1), 5, []int64{0}},
		{whole(0), wholeOnes(17), 5, []int64{0}},
		{wholeOnes(17), whole(0), 5, []int64{0}},
		{whole(0), whole(0), 2, []int64{0}},
		{wholePower(8, 3), wholePower(8, 5), 7, wholePower(16, 1).Terms},
		{wholePower(16, 3), whole(5), 7, wholePower(16, 1).Terms},
		{wholePower(8, 1), wholePower(9, 1), 7, nil},
		{wholePower(16, 1), whole(0, 1), 2, nil},
		{wholeOnes(17), wholeOnes(17), 13, nil},
	})
}

func TestDivideOver(t *testing.T) {
	cases := []struct {
		a, b           impl.Whole
		prime          int64
		quotient, rest []int64
	}{
		{whole(1, 0, 1), whole(0, 1), 3, []int64{0, 1}, []int64{1}},
		{whole(1, 0, 1), whole(1, 1), 2, []int64{1, 1}, []int64{0}},
		{whole(4, 3, 2, 1), whole(1, 3), 5, []int64{1, 0, 2}, []int64{3}},
		{whole(1, 2), whole(1, 2, 1), 3, []int64{0}, []int64{1, 2}},
		{whole(0), whole(1, 2, 1), 3, []int64{0}, []int64{0}},
		{whole(0), whole(2), 3, []int64{0}, []int64{0}},
		{whole(2), whole(0, 2), 3, []int64{0}, []int64{2}},
		{whole(3, 0, 5), whole(4), 7, []int64{6, 0, 3}, []int64{0}},
		{whole(6), whole(5), 7, []int64{4}, []int64{0}},
		{whole(3, 2, 1), whole(3, 2, 1), 5, []int64{1}, []int64{0}},
		{wholePower(16, 12), whole(12), 13, wholePower(16, 1).Terms, []int64{0}},
		{wholePower(16, 1), wholePower(16, 2), 3, []int64{2}, []int64{0}},
		{wholePower(16, 1), whole(1, 0, 0, 0, 0, 0, 0, 0, 1), 3, withLowest(wholePower(8, 1), 2).Terms, []int64{1}},
	}
	for _, c := range cases {
		quotient, rest, ok := impl.DivideOver(c.a, c.b, c.prime)
		wantWhole(t, plain("the quotient of ", c.a, c.b, c.prime), quotient, ok, c.quotient...)
		wantWhole(t, plain("the rest of ", c.a, c.b, c.prime), rest, ok, c.rest...)
	}
	for _, a := range []impl.Whole{whole(0), whole(1), whole(1, 1)} {
		quotient, rest, ok := impl.DivideOver(a, whole(0), 3)
		wantNoWhole(t, plain("the quotient by 0 of ", a), quotient, ok)
		wantNoWhole(t, plain("the rest by 0 of ", a), rest, ok)
	}
}

func TestCommonOver(t *testing.T) {
	wantOver(t, "CommonOver", impl.CommonOver, []overCase{
		{whole(2, 2), whole(1, 2, 1), 3, []int64{1, 1}},
		{whole(1, 2, 1), whole(2, 2), 3, []int64{1, 1}},
		{whole(1, 0, 1), whole(1, 1), 2, []int64{1, 1}},
		{whole(1, 0, 1), whole(1, 1), 3, []int64{1}},
		{whole(0), whole(0), 5, []int64{0}},
		{whole(0), whole(3), 5, []int64{1}},
		{whole(3), whole(0), 5, []int64{1}},
		{whole(4), whole(3), 5, []int64{1}},
		{whole(0), whole(1, 2), 5, []int64{3, 1}},
		{whole(1, 2), whole(0), 5, []int64{3, 1}},
		{whole(4), wholeOnes(17), 5, []int64{1}},
		{wholePower(16, 3), wholePower(9, 2), 7, wholePower(9, 1).Terms},
		{timesOver(13, whole(5, 0, 7), whole(1, 12)), timesOver(13, whole(5, 0, 7), whole(2, 1, 3)), 13, timesOver(13, whole(2), whole(5, 0, 7)).Terms},
	})
}

func TestPowerOver(t *testing.T) {
	cases := []struct {
		base  impl.Whole
		power int64
		by    impl.Whole
		prime int64
		want  []int64
	}{
		{whole(0, 1), 4, whole(1, 1, 1), 2, []int64{0, 1}},
		{whole(0, 1), 0, whole(1, 1, 1), 2, []int64{1}},
		{whole(0, 1), 1, whole(1, 1, 1), 2, []int64{0, 1}},
		{whole(0, 1), 2, whole(1, 1, 1), 2, []int64{1, 1}},
		{whole(0), 0, whole(1, 1), 5, []int64{1}},
		{whole(0), 1, whole(1, 1), 5, []int64{0}},
		{whole(0), 1000000, whole(1, 1), 5, []int64{0}},
		{whole(3), 1000000, whole(1, 1), 7, []int64{4}},
		{whole(0, 1), 1000000, whole(4, 1), 7, []int64{4}},
		{whole(0, 1), 1000000, wholePower(16, 3), 7, []int64{0}},
		{whole(0, 1), 15, wholePower(16, 3), 7, wholePower(15, 1).Terms},
		{whole(0, 1), 16, wholePower(16, 3), 7, []int64{0}},
		{wholePower(16, 1), 1, whole(1, 0, 1), 3, []int64{1}},
		{wholeOnes(17), 1, wholePower(16, 2), 3, repeated[int64](1, 16)},
		{whole(1, 1), 2, whole(1, 1), 2, []int64{0}},
	}
	for _, c := range cases {
		got, ok := impl.PowerOver(c.base, c.power, c.by, c.prime)
		wantWhole(t, plain("PowerOver ", c), got, ok, c.want...)
	}
	for _, power := range []int64{-1, 1000001, -1 << 63, 1<<63 - 1} {
		got, ok := impl.PowerOver(whole(0, 1), power, whole(1, 1), 2)
		wantNoWhole(t, plain("the power ", power), got, ok)
	}
	for _, by := range []impl.Whole{whole(0), whole(1), whole(2)} {
		got, ok := impl.PowerOver(whole(0, 1), 3, by, 3)
		wantNoWhole(t, plain("a power by ", by), got, ok)
	}
}

func TestRootsOver(t *testing.T) {
	cases := []struct {
		p     impl.Whole
		prime int64
		want  []int64
	}{
		{whole(1, 0, 1), 5, []int64{2, 3}},
		{whole(1, 0, 1), 3, nil},
		{whole(1, 0, 1), 2, []int64{1}},
		{whole(4), 5, nil},
		{whole(0, 2), 13, []int64{0}},
		{whole(1, 12), 13, []int64{1}},
		{whole(2, 1), 13, []int64{11}},
		{whole(0, 0, 0, 3), 7, []int64{0}},
		{whole(0, 1, 1), 2, []int64{0, 1}},
		{whole(0, 2, 0, 1), 3, []int64{0, 1, 2}},
		{withLowest(wholePower(12, 1), 12), 13, []int64{1, 2, 3, 4, 5, 6, 7, 8, 9, 10, 11, 12}},
		{wholeOnes(17), 2, nil},
		{wholeOnes(16), 2, []int64{1}},
	}
	for _, c := range cases {
		got, ok := impl.RootsOver(c.p, c.prime)
		wantIntegers(t, plain("RootsOver ", c.p, c.prime), got, ok, c.want...)
	}
	for _, prime := range primes() {
		got, ok := impl.RootsOver(whole(0), prime)
		wantNoIntegers(t, plain("the roots of 0 over ", prime), got, ok)
	}
}
