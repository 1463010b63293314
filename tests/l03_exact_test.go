package tests

import (
	"testing"

	"loop.example/g01358/impl"
)

// divides reports whether p by b is exact, 0 by 0 included.
func divides(b, p impl.Whole) bool {
	if impl.SameWhole(b, whole(0)) {
		return impl.SameWhole(p, whole(0))
	}
	quotient, ok := impl.ExactQuotient(p, b)
	return ok && impl.SameWhole(times(quotient, b), p)
}

func TestProductsAreDividedAgain(t *testing.T) {
	s := &sweep{}
	for range 3000 {
		a, b := s.whole(9, 300), s.whole(9, 300)
		product, ok := impl.MulWholes(a, b)
		if !ok || !impl.SameWhole(product, times(a, b)) {
			t.Fatalf("the product of %v and %v is %v, %v", a, b, product, ok)
		}
		if impl.SameWhole(b, whole(0)) {
			continue
		}
		quotient, ok := impl.ExactQuotient(product, b)
		wantWhole(t, plain("the quotient of ", product, b), quotient, ok, a.Terms...)
		k := s.below(len(product.Terms))
		if other := wholePlus(product, k, product.Terms[k]+1); len(b.Terms) > 1 && impl.ValidWhole(other) {
			got, ok := impl.ExactQuotient(other, b)
			if ok && !impl.SameWhole(times(got, b), other) {
				t.Errorf("the quotient of %v and %v is %v", other, b, got)
			}
		}
	}
}

// TestCommonOnesDivideBoth has wholes with a common one that is known: all
// that divides both divides the greatest one.
func TestCommonOnesDivideBoth(t *testing.T) {
	s := &sweep{}
	told := 0
	for range 3000 {
		c := s.whole(3, 4)
		a, b := times(s.whole(3, 3), c, whole(s.integer(6))), times(s.whole(3, 3), c, whole(s.integer(6)))
		common, ok := impl.CommonWhole(a, b)
		if !ok {
			continue
		}
		told++
		if last := common.Terms[len(common.Terms)-1]; last < 0 || !divides(common, a) || !divides(common, b) || !divides(c, common) {
			t.Errorf("the common one of %v and %v is %v", a, b, common)
		}
		contents := [3]int64{}
		for i, p := range []impl.Whole{a, b, common} {
			contents[i], _ = impl.ContentOf(p)
		}
		if want := numberIn(contents[0], contents[1]); contents[2] != want {
			t.Errorf("the common one of %v and %v is %v, whose content is not %d", a, b, common, want)
		}
	}
	if told < 2500 {
		t.Errorf("only %d common ones have been told", told)
	}
}

// numberIn is the tests' own greatest common number.
func numberIn(a, b int64) int64 {
	for b != 0 {
		a, b = b, a%b
	}
	return a
}

func TestSquareFreePartsMakeTheirWhole(t *testing.T) {
	s := &sweep{}
	told := 0
	for range 2000 {
		a, b, c := s.whole(3, 2), s.whole(2, 3), s.whole(2, 2)
		p := times(whole(s.integer(5)), a, b, b, c, c, c)
		parts, ok := impl.SquareFree(p)
		if !ok {
			continue
		}
		told++
		powers := []impl.Whole{}
		for i, part := range parts {
			powers = append(powers, repeated(part, i+1)...)
			slope, _ := impl.SlopeWhole(part)
			if common, ok := impl.CommonWhole(part, slope); ok && len(common.Terms) > 1 {
				t.Errorf("a part of %v has a square: %v", p, part)
			}
			for _, other := range parts[:i] {
				if common, ok := impl.CommonWhole(part, other); ok && len(common.Terms) > 1 {
					t.Errorf("two parts of %v have a common one: %v and %v", p, part, other)
				}
			}
		}
		primitive, _ := impl.PrimitiveOf(p)
		if got := times(powers...); !impl.SameWhole(got, primitive) {
			t.Errorf("the parts of %v make %v", p, got)
		}
	}
	if told < 1000 {
		t.Errorf("only %d wholes have been told", told)
	}
}

// TestFractionRootsAreRoots has wholes with known roots, and others.
func TestFractionRootsAreRoots(t *testing.T) {
	s := &sweep{}
	for range 1500 {
		d := 1 + int64(s.below(9))
		n := s.integer(12)
		p := times(whole(-n, d), s.whole(4, 3), s.whole(3, 4))
		roots, ok := impl.FractionRoots(p)
		if impl.SameWhole(p, whole(0)) {
			wantNoIntegers(t, "FractionRoots 0", roots, ok)
			continue
		}
		found := !ok
		for i := 0; i < len(roots); i += 2 {
			found = found || roots[i]*d == n*roots[i+1]
			if roots[i+1] < 1 || numberIn(roots[i], roots[i+1])*numberIn(roots[i], roots[i+1]) != 1 || !divides(whole(-roots[i], roots[i+1]), p) {
				t.Errorf("a root of %v is %d/%d", p, roots[i], roots[i+1])
			}
			if i > 0 && roots[i-2]*roots[i+1] >= roots[i]*roots[i-1] {
				t.Errorf("the roots of %v are not in order: %v", p, roots)
			}
		}
		if !found {
			t.Errorf("the roots of %v are %v, without %d/%d", p, roots, n, d)
		}
	}
}

// TestDivisionsOver has all rules that divisions over primes keep.
func TestDivisionsOver(t *testing.T) {
	s := &sweep{}
	for range 3000 {
		prime := primes()[s.below(6)]
		a, b := s.over(17, prime), s.over(9, prime)
		if impl.SameWhole(b, whole(0)) {
			continue
		}
		quotient, rest, ok := impl.DivideOver(a, b, prime)
		back, _ := impl.AddWholes(timesOver(prime, quotient, b), rest, 1, 1)
		if !ok || !impl.SameWhole(restsOf(back, prime), a) || len(rest.Terms) >= len(b.Terms) && !impl.SameWhole(rest, whole(0)) {
			t.Errorf("the division of %v by %v over %d: %v, %v, %v", a, b, prime, quotient, rest, ok)
		}
		if !impl.SameWhole(restsOf(quotient, prime), quotient) || !impl.SameWhole(restsOf(rest, prime), rest) {
			t.Errorf("the division of %v by %v over %d: %v, %v", a, b, prime, quotient, rest)
		}
	}
}

func TestCommonOnesOver(t *testing.T) {
	s := &sweep{}
	for range 3000 {
		prime := primes()[s.below(6)]
		c := s.over(4, prime)
		a, b := timesOver(prime, s.over(6, prime), c), timesOver(prime, s.over(6, prime), c)
		common, ok := impl.CommonOver(a, b, prime)
		if impl.SameWhole(a, whole(0)) && impl.SameWhole(b, whole(0)) {
			wantWhole(t, "the common one of zeros", common, ok, 0)
			continue
		}
		if !ok || common.Terms[len(common.Terms)-1] != 1 {
			t.Fatalf("the common one of %v and %v over %d is %v, %v", a, b, prime, common, ok)
		}
		for _, pair := range [][2]impl.Whole{{a, common}, {b, common}, {common, c}} {
			if _, rest, ok := impl.DivideOver(pair[0], pair[1], prime); !ok || !impl.SameWhole(rest, whole(0)) {
				t.Errorf("the common one of %v and %v over %d is %v: %v does not divide %v", a, b, prime, common, pair[1], pair[0])
			}
		}
	}
}

func TestPowersOver(t *testing.T) {
	s := &sweep{}
	for range 300 {
		prime := primes()[s.below(6)]
		base, by := s.over(17, prime), s.monic(1+s.below(16), prime)
		want := whole(1)
		for power := range int64(12) {
			got, ok := impl.PowerOver(base, power, by, prime)
			wantWhole(t, plain("PowerOver ", base, power, by, prime), got, ok, want.Terms...)
			product := timesOver(prime, want, base)
			// The product may be too long to be a whole.
			for len(product.Terms) >= len(by.Terms) {
				move := len(product.Terms) - len(by.Terms)
				last := product.Terms[len(product.Terms)-1]
				moved := timesOver(prime, wholePower(move, prime-last), by)
				next := append([]int64{}, product.Terms...)
				for k, term := range moved.Terms {
					next[k] += term
				}
				product = restsOf(impl.Whole{Terms: next}, prime)
			}
			want = product
		}
	}
	// x to the power of as many as there are rests is x.
	for _, c := range []struct {
		by           impl.Whole
		power, prime int64
	}{{whole(1, 1, 0, 0, 0, 0, 1), 64, 2}, {whole(2, 0, 0, 1), 2197, 13}, {whole(1, 2, 0, 0, 0, 1), 243, 3}, {whole(3, 0, 0, 1), 343, 7}} {
		got, ok := impl.PowerOver(whole(0, 1), c.power, c.by, c.prime)
		wantWhole(t, plain("PowerOver ", c), got, ok, 0, 1)
	}
}

func TestRootsOverAreRoots(t *testing.T) {
	s := &sweep{}
	for range 500 {
		prime := primes()[s.below(6)]
		p := s.over(17, prime)
		if impl.SameWhole(p, whole(0)) {
			continue
		}
		want := []int64{}
		for x := range prime {
			value := int64(0)
			for k := len(p.Terms) - 1; k >= 0; k-- {
				value = (value*x + p.Terms[k]) % prime
			}
			if value == 0 {
				want = append(want, x)
			}
		}
		got, ok := impl.RootsOver(p, prime)
		wantIntegers(t, plain("RootsOver ", p, prime), got, ok, want...)
	}
}
