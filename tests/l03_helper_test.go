package tests

import (
	"math"
	"slices"
	"testing"

	"loop.example/g01358/impl"
)

const great = impl.MaxWholeTerm

// whole returns the whole with these terms, whether it is valid or not.
func whole(terms ...int64) impl.Whole {
	return impl.Whole{Terms: terms}
}

// wholeOnes returns the whole with n terms of 1.
func wholeOnes(n int) impl.Whole {
	return whole(repeated[int64](1, n)...)
}

// wholePower returns x to the power k, times n.
func wholePower(k int, n int64) impl.Whole {
	p := whole(make([]int64, k+1)...)
	p.Terms[k] = n
	return p
}

func primes() []int64 {
	return []int64{2, 3, 5, 7, 11, 13}
}

// notPrimes are numbers that are no primes of the document.
func notPrimes() []int64 {
	return []int64{math.MinInt64, -13, -2, -1, 0, 1, 4, 6, 8, 9, 10, 12, 14, 15, 17, 19, 25, 26, 169, math.MaxInt64}
}

// counts are numbers of workers, at both ends of those that are allowed.
func counts() []int64 {
	return []int64{1, 2, 3, impl.MaxWorkers - 1, impl.MaxWorkers}
}

func wrongCounts() []int64 {
	return []int64{math.MinInt64, -1, 0, impl.MaxWorkers + 1, 1 << 40, math.MaxInt64}
}

// invalidWholes are wholes for which every function fails.
func invalidWholes() []impl.Whole {
	return []impl.Whole{
		whole(), whole([]int64{}...), whole(0, 0), whole(1, 0), whole(1, 2, 3, 0), whole(make([]int64, impl.MaxDegree3+1)...),
		whole(great + 1), whole(-great - 1), whole(great+1, 1), whole(1, -great-1), whole(1, great+1, 1), whole(math.MinInt64), whole(1, math.MaxInt64),
		wholeOnes(impl.MaxDegree3 + 2), wholePower(impl.MaxDegree3+1, 1), wholeOnes(300), whole(make([]int64, 300)...),
	}
}

// validWholes are wholes with edges.
func validWholes() []impl.Whole {
	return []impl.Whole{
		whole(0), whole(1), whole(-1), whole(7), whole(great), whole(-great), whole(0, 1), whole(1, 1), whole(-1, 1), whole(0, -great), whole(great, great),
		whole(1, 2, 1), whole(-6, 1, 1), whole(1, 0, 1), whole(2, 0, 2), whole(0, 0, 0, 5), whole(1, 0, 0, 0, -1), whole(20, -20, 20, -20, 20),
		whole(1, 3, 3, 1), whole(12, 0, 12, 6, 6, 12, 0, 6), whole(1000, -999, 998), wholeOnes(7), wholeOnes(9), wholeOnes(impl.MaxDegree3), wholeOnes(impl.MaxDegree3 + 1),
		wholePower(impl.MaxDegree3, 1), wholePower(impl.MaxDegree3, -great), whole(repeated[int64](-great, impl.MaxDegree3+1)...),
	}
}

func wantWhole(t *testing.T, what string, got impl.Whole, ok bool, want ...int64) {
	t.Helper()
	if !ok || !slices.Equal(got.Terms, want) {
		t.Errorf("%s: got %v, %v, want %v", what, got, ok, want)
	}
}

func wantNoWhole(t *testing.T, what string, got impl.Whole, ok bool) {
	t.Helper()
	if ok || len(got.Terms) != 0 {
		t.Errorf("%s: got %v, %v, but it must fail", what, got, ok)
	}
}

func wantWholes(t *testing.T, what string, got []impl.Whole, ok bool, want ...impl.Whole) {
	t.Helper()
	if !ok || plain(got) != plain(want) {
		t.Errorf("%s: got %v, %v, want %v", what, got, ok, want)
	}
}

func wantNoWholes(t *testing.T, what string, got []impl.Whole, ok bool) {
	t.Helper()
	if ok || len(got) != 0 {
		t.Errorf("%s: got %v, %v, but it must fail", what, got, ok)
	}
}

func wantInteger(t *testing.T, what string, got int64, ok bool, want int64) {
	t.Helper()
	if !ok || got != want {
		t.Errorf("%s: got %d, %v, want %d", what, got, ok, want)
	}
}

func wantNoInteger(t *testing.T, what string, got int64, ok bool) {
	t.Helper()
	if ok || got != 0 {
		t.Errorf("%s: got %d, %v, but it must fail", what, got, ok)
	}
}

func wantIntegers(t *testing.T, what string, got []int64, ok bool, want ...int64) {
	t.Helper()
	if !ok || !slices.Equal(got, want) {
		t.Errorf("%s: got %v, %v, want %v", what, got, ok, want)
	}
}

func wantNoIntegers(t *testing.T, what string, got []int64, ok bool) {
	t.Helper()
	if ok || len(got) != 0 {
		t.Errorf("%s: got %v, %v, but it must fail", what, got, ok)
	}
}

// cut is the tests' own leaving out of zeros behind the last term.
func cut(terms []int64) []int64 {
	for len(terms) > 1 && terms[len(terms)-1] == 0 {
		terms = terms[:len(terms)-1]
	}
	return terms
}

// times is the tests' own product, of any number of wholes.
func times(list ...impl.Whole) impl.Whole {
	product := []int64{1}
	for _, p := range list {
		next := make([]int64, len(product)+len(p.Terms)-1)
		for k := range next {
			for i := range product {
				if 0 <= k-i && k-i < len(p.Terms) {
					next[k] += product[i] * p.Terms[k-i]
				}
			}
		}
		product = cut(next)
	}
	return impl.Whole{Terms: product}
}

// restsOf is the tests' own OverPrime, for any modulus.
func restsOf(p impl.Whole, modulus int64) impl.Whole {
	terms := make([]int64, len(p.Terms))
	for k, term := range p.Terms {
		terms[k] = (term%modulus + modulus) % modulus
	}
	return impl.Whole{Terms: cut(terms)}
}

// timesOver is the tests' own product over a prime.
func timesOver(prime int64, list ...impl.Whole) impl.Whole {
	product := whole(1)
	for _, p := range list {
		product = restsOf(times(product, p), prime)
	}
	return product
}

// monics are all wholes over a prime of a degree, with the last term 1, in the
// document's order.
func monics(degree int, prime int64) []impl.Whole {
	list := []impl.Whole{whole(1)}
	for range degree {
		longer := []impl.Whole{}
		for _, p := range list {
			for x := range prime {
				// The terms that are there are the higher ones.
				longer = append(longer, impl.Whole{Terms: append([]int64{x}, p.Terms...)})
			}
		}
		list = longer
	}
	return list
}

// integer gives a number from -most to most.
func (s *sweep) integer(most int64) int64 {
	return int64(s.below(int(2*most+1))) - most
}

// terms gives 1 to most terms, with or without zeros at the end.
func (s *sweep) terms(most int, size int64) []int64 {
	terms := make([]int64, 1+s.below(most))
	for k := range terms {
		terms[k] = s.integer(size)
	}
	return terms
}

func (s *sweep) whole(most int, size int64) impl.Whole {
	return impl.Whole{Terms: cut(s.terms(most, size))}
}

// over gives a whole over a prime of 1 to most terms.
func (s *sweep) over(most int, prime int64) impl.Whole {
	return restsOf(s.whole(most, 1000), prime)
}

// monic gives a whole over a prime of a degree, with the last term 1.
func (s *sweep) monic(degree int, prime int64) impl.Whole {
	p := wholePower(degree, 1)
	for k := range degree {
		p.Terms[k] = int64(s.below(int(prime)))
	}
	return p
}
