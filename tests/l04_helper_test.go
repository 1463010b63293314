package tests

import (
	"math"
	"math/big"
	"slices"
	"testing"

	"loop.example/g01358/impl"
)

const (
	greatTerm = impl.MaxTermOf
	greatPart = int64(1000000)
	greatEnd  = int64(1) << 40
)

// realOf returns the polynomial with these terms, whether it is valid or not.
func realOf(terms ...int64) impl.Real {
	return impl.Real{Terms: terms}
}

// realOnes returns the polynomial with n terms of 1.
func realOnes(n int) impl.Real {
	return realOf(repeated[int64](1, n)...)
}

// realPower returns x to the power k, times n.
func realPower(k int, n int64) impl.Real {
	return impl.Real(wholePower(k, n))
}

// realTimes is the tests' own product, of any number of polynomials.
func realTimes(list ...impl.Real) impl.Real {
	wholes := []impl.Whole{}
	for _, r := range list {
		wholes = append(wholes, impl.Whole(r))
	}
	return impl.Real(times(wholes...))
}

// greatReals have the greatest terms, or others near to them, of many signs.
func greatReals() []impl.Real {
	all := repeated[int64](greatTerm, impl.MaxReal)
	turns, pairs, ends := slices.Clone(all), slices.Clone(all), realPower(impl.MaxReal-1, -greatTerm)
	for k := range all {
		turns[k] *= int64(1 - 2*(k%2))
		pairs[k] *= int64(1 - 2*(k/2%2))
	}
	ends.Terms[0] = greatTerm
	return []impl.Real{
		realOf(all...), realOf(turns...), realOf(pairs...), ends, realPower(impl.MaxReal-1, greatTerm),
		realOf(997, -991, -983, 977, 971, -967, -953, 947, -941), realOf(-1000, 999, 998, -997, -996, 995, 994, -993, -1000),
	}
}

// eightRoots is the polynomial whose 8 roots are cosines.
func eightRoots() impl.Real {
	return realOf(1, 0, -32, 0, 160, 0, -256, 0, 128)
}

// nearRoots have two roots that are so near to each other that the last shift
// just tells them apart.
func nearRoots() []impl.Real {
	return []impl.Real{realOf(-2, 88, -968, 0, 0, 0, 0, 1), realOf(-1, 34, -289, 0, 0, 0, 0, 0, 1)}
}

// tooNearRoots have two roots that no shift tells apart.
func tooNearRoots() []impl.Real {
	return []impl.Real{
		realOf(-2, 68, -578, 0, 0, 0, 0, 0, 1), realOf(-2, 84, -882, 0, 0, 0, 0, 0, 1), realOf(-1, 44, -484, 0, 0, 0, 0, 0, 1), realOf(-2, 88, -968, 0, 0, 0, 0, 0, 2),
		realOf(2, 88, 968, 0, 0, 0, 0, 0, -1),
	}
}

// invalidReals are polynomials for which every function fails.
func invalidReals() []impl.Real {
	return []impl.Real{
		realOf(), realOf([]int64{}...), realOf(0), realOf(0, 0), realOf(1, 0), realOf(1, 2, 0), realOf(make([]int64, impl.MaxReal)...), realOf(1, 1, 1, 1, 1, 1, 1, 1, 0),
		realOf(greatTerm + 1), realOf(-greatTerm - 1), realOf(greatTerm+1, 1), realOf(1, -greatTerm-1, 1), realOf(1, greatTerm+1), realOf(math.MinInt64), realOf(1, math.MaxInt64), realOf(math.MinInt64, 1),
		realOnes(impl.MaxReal + 1), realPower(impl.MaxReal, 1), realOnes(300), realOf(make([]int64, 300)...),
	}
}

// validReals are polynomials with edges.
func validReals() []impl.Real {
	list := []impl.Real{
		realOf(1), realOf(-1), realOf(greatTerm), realOf(-greatTerm), realOf(0, 1), realOf(0, -greatTerm), realOf(greatTerm, 1), realOf(-greatTerm, -1), realOf(-999, 1000),
		realOf(-2, 0, 1), realOf(2, -3, 1), realOf(1, 0, 1), realOf(1, -2, 1), realOf(0, 0, 1), realOf(-1, -1, 2), realOf(-1, 3, -3, 1), realOf(0, -1, 0, 1), realOf(4, 0, -4, 0, 1),
		realPower(impl.MaxReal-1, 1), realPower(impl.MaxReal-2, -1), realOnes(impl.MaxReal - 1), realOnes(impl.MaxReal), eightRoots(),
		realOf(1, -8, 28, -56, 70, -56, 28, -8, 1), realOf(0, 0, 4, 0, -4, 0, 1), realOf(2, -88, 968, 0, 0, 0, 0, 0, 1),
	}
	return slices.Concat(list, greatReals(), nearRoots(), tooNearRoots())
}

func gap(low, high, shift int64) impl.Gap {
	return impl.Gap{Low: low, High: high, Shift: shift}
}

// place is a numerator and a denominator.
type place [2]int64

func (p place) rat() *big.Rat {
	return big.NewRat(p[0], p[1])
}

// wrongPlaces are no fractions.
func wrongPlaces() []place {
	return []place{
		{greatPart + 1, 1}, {-greatPart - 1, 1}, {greatPart + 1, greatPart}, {1, greatPart + 1}, {0, greatPart + 1}, {0, 0}, {1, 0}, {0, -1}, {1, -1}, {-1, -1}, {greatPart, -greatPart},
		{math.MinInt64, 1}, {math.MaxInt64, 1}, {1, math.MinInt64}, {1, math.MaxInt64}, {math.MinInt64, math.MinInt64}, {math.MaxInt64, math.MaxInt64},
	}
}

// endPlaces are fractions with edges.
func endPlaces() []place {
	return []place{
		{0, 1}, {1, 1}, {-1, 1}, {1, 2}, {-1, 2}, {3, 2}, {2, 1}, {0, greatPart}, {1, greatPart}, {-1, greatPart}, {greatPart, 1}, {-greatPart, 1}, {greatPart, greatPart}, {-greatPart, greatPart},
		{greatPart, greatPart - 1}, {greatPart - 1, greatPart}, {-greatPart, 3}, {999000, greatPart}, {999001, greatPart}, {45454, greatPart}, {45455, greatPart},
	}
}

// ratTerms are the tests' own terms of any size.
func ratTerms(r impl.Real) []*big.Rat {
	terms := make([]*big.Rat, len(r.Terms))
	for k, term := range r.Terms {
		terms[k] = new(big.Rat).SetInt64(term)
	}
	return terms
}

// ratAt is the tests' own value.
func ratAt(terms []*big.Rat, at *big.Rat) *big.Rat {
	value := new(big.Rat)
	for _, term := range slices.Backward(terms) {
		value.Add(value.Mul(value, at), term)
	}
	return value
}

// signOfReal is the tests' own sign.
func signOfReal(r impl.Real, at *big.Rat) int64 {
	return int64(ratAt(ratTerms(r), at).Sign())
}

func wantReal(t *testing.T, what string, got impl.Real, ok bool, want ...int64) {
	t.Helper()
	wantIntegers(t, what, got.Terms, ok, want...)
}

func wantNoReal(t *testing.T, what string, got impl.Real, ok bool) {
	t.Helper()
	wantNoIntegers(t, what, got.Terms, ok)
}

func wantAnswer(t *testing.T, what string, got, ok, want bool) {
	t.Helper()
	if !ok || got != want {
		t.Errorf("%s: got %v, %v, want %v", what, got, ok, want)
	}
}

func wantNoAnswer(t *testing.T, what string, got, ok bool) {
	t.Helper()
	if ok || got {
		t.Errorf("%s: got %v, %v, but it must fail", what, got, ok)
	}
}

func wantGap(t *testing.T, what string, got impl.Gap, ok bool, want impl.Gap) {
	t.Helper()
	if !ok || got != want {
		t.Errorf("%s: got %v, %v, want %v", what, got, ok, want)
	}
}

func wantNoGap(t *testing.T, what string, got impl.Gap, ok bool) {
	t.Helper()
	if ok || got != (impl.Gap{}) {
		t.Errorf("%s: got %v, %v, but it must fail", what, got, ok)
	}
}

func wantGaps(t *testing.T, what string, got []impl.Gap, ok bool, want ...impl.Gap) {
	t.Helper()
	if !ok || !slices.Equal(got, want) {
		t.Errorf("%s: got %v, %v, want %v", what, got, ok, want)
	}
}

func wantNoGaps(t *testing.T, what string, got []impl.Gap, ok bool) {
	t.Helper()
	if ok || len(got) != 0 {
		t.Errorf("%s: got %v, %v, but it must fail", what, got, ok)
	}
}
