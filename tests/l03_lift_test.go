package tests

import (
	"testing"

	"loop.example/g01358/impl"
)

type liftCase struct {
	p, g, h impl.Whole
	prime   int64
}

func TestLiftPair(t *testing.T) {
	cases := []struct {
		liftCase
		a, b []int64
	}{
		{liftCase{whole(-1, 0, 1), whole(1, 1), whole(2, 1), 3}, []int64{1, 1}, []int64{8, 1}},
		{liftCase{whole(-1, 0, 1), whole(2, 1), whole(1, 1), 3}, []int64{8, 1}, []int64{1, 1}},
		{liftCase{whole(1, 0, 1), whole(2, 1), whole(3, 1), 5}, []int64{7, 1}, []int64{18, 1}},
		{liftCase{whole(0, 1, 1), whole(0, 1), whole(1, 1), 2}, []int64{0, 1}, []int64{1, 1}},
		{liftCase{whole(2, 1, 1), whole(0, 1), whole(1, 1), 2}, []int64{2, 1}, []int64{3, 1}},
		{liftCase{whole(169, 1, 1), whole(0, 1), whole(1, 1), 13}, []int64{0, 1}, []int64{1, 1}},
	}
	for _, c := range cases {
		a, b, ok := impl.LiftPair(c.p, c.g, c.h, c.prime)
		wantWhole(t, plain("the first one of ", c), a, ok, c.a...)
		wantWhole(t, plain("the second one of ", c), b, ok, c.b...)
	}
}

func TestLiftPairsThatFail(t *testing.T) {
	eight := timesOver(2, wholePower(4, 1), withLowest(wholePower(4, 1), 1))
	wrong := []liftCase{
		// The last term is not 1.
		{whole(2, 0, 2), whole(1, 1), whole(2, 1), 3}, {whole(2, 0, 4), whole(1, 1), whole(2, 1), 3}, {whole(-2, 0, -2), whole(1, 1), whole(2, 1), 3},
		{whole(2, 0, 1), whole(2, 2), whole(1, 2), 3}, {whole(2, 0, 1), whole(1, 2), whole(2, 2), 3},
		// The product is another one.
		{whole(0, 0, 1), whole(1, 1), whole(2, 1), 3}, {whole(-1, 1, 1), whole(1, 1), whole(2, 1), 3}, {whole(0, -1, 0, 1), whole(1, 1), whole(2, 1), 3},
		{whole(1), whole(1, 1), whole(2, 1), 3}, {whole(0), whole(1, 1), whole(2, 1), 3}, {whole(2, 1), whole(1, 1), whole(2, 1), 3},
		// There is a common one.
		{whole(1, 2, 1), whole(1, 1), whole(1, 1), 3}, {whole(0, 0, 0, 1), whole(0, 1), whole(0, 0, 1), 5}, {whole(1, 0, 1), whole(1, 1), whole(1, 1), 2},
		// The degree is 0.
		{whole(1, 1), whole(1), whole(1, 1), 3}, {whole(1, 1), whole(1, 1), whole(1), 3}, {whole(1), whole(1), whole(1), 3}, {whole(0), whole(0), whole(0), 3},
		{whole(1, 0, 1), whole(1), whole(1, 0, 1), 3}, {whole(1, 0, 1), whole(1, 0, 1), whole(1), 3},
		// They are not over the prime.
		{whole(-1, 0, 1), whole(-2, 1), whole(2, 1), 3}, {whole(-1, 0, 1), whole(1, 1), whole(-1, 1), 3}, {whole(-1, 0, 1), whole(4, 1), whole(2, 1), 3},
		{whole(0, 3, 1), whole(0, 1), whole(3, 1), 3},
		// The degree is greater than 8.
		{timesOver(2, eight, whole(1, 1, 1)), eight, whole(1, 1, 1), 2},
		{wholePlus(wholePower(9, 1), 1, -1), whole(0, 1), withLowest(wholePower(8, 1), 2), 3}, {wholePower(16, 1), wholePower(8, 1), wholePower(8, 1), 2},
	}
	for _, c := range wrong {
		a, b, ok := impl.LiftPair(c.p, c.g, c.h, c.prime)
		wantNoWhole(t, plain("the first one of ", c), a, ok)
		wantNoWhole(t, plain("the second one of ", c), b, ok)
	}
	a, b, ok := impl.LiftPair(eight, wholePower(4, 1), withLowest(wholePower(4, 1), 1), 2)
	wantWhole(t, "the first one of the degree 8", a, ok, wholePower(4, 1).Terms...)
	wantWhole(t, "the second one of the degree 8", b, ok, wholePlusOne(4)...)
}

// wholePlus returns p with another term of the power k.
func wholePlus(p impl.Whole, k int, term int64) impl.Whole {
	terms := append([]int64{}, p.Terms...)
	terms[k] = term
	return impl.Whole{Terms: terms}
}

// near gives a whole with the last term 1, and the rests of a product of two
// for a prime, but not for its square.
func (s *sweep) near(product impl.Whole, prime, most int64) impl.Whole {
	terms := append([]int64{}, product.Terms...)
	for k := range len(terms) - 1 {
		terms[k] += prime * s.integer(most)
	}
	return impl.Whole{Terms: terms}
}

// TestLiftedPairs has all that the document says of two lifted ones; there are
// no others of which it is true.
func TestLiftedPairs(t *testing.T) {
	s := &sweep{}
	lifted := 0
	for range 3000 {
		prime := primes()[s.below(6)]
		g, h := s.monic(1+s.below(4), prime), s.monic(1+s.below(4), prime)
		p := s.near(times(g, h), prime, 70000)
		common, _ := impl.CommonOver(g, h, prime)
		a, b, ok := impl.LiftPair(p, g, h, prime)
		if ok != (len(common.Terms) == 1) {
			t.Errorf("LiftPair of %v, %v and %v over %d: %v", p, g, h, prime, ok)
		}
		if !ok {
			continue
		}
		lifted++
		square := prime * prime
		if !impl.SameWhole(restsOf(times(a, b), square), restsOf(p, square)) {
			t.Errorf("the product of %v and %v is not %v for %d", a, b, p, square)
		}
		for _, pair := range [][2]impl.Whole{{a, g}, {b, h}} {
			if !impl.SameWhole(restsOf(pair[0], prime), pair[1]) || !impl.SameWhole(restsOf(pair[0], square), pair[0]) || len(pair[0].Terms) != len(pair[1].Terms) {
				t.Errorf("%v is lifted to %v for %d", pair[1], pair[0], prime)
			}
		}
	}
	if lifted < 1000 {
		t.Errorf("only %d pairs have been lifted", lifted)
	}
}
