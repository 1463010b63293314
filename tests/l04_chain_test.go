package tests

import (
	"math"
	"math/big"
	"testing"

	"loop.example/g01358/impl"
)

func ratTrimmed(terms []*big.Rat) []*big.Rat {
	for len(terms) > 0 && terms[len(terms)-1].Sign() == 0 {
		terms = terms[:len(terms)-1]
	}
	return terms
}

func ratSlope(terms []*big.Rat) []*big.Rat {
	slope := []*big.Rat{}
	for k := 1; k < len(terms); k++ {
		slope = append(slope, new(big.Rat).Mul(terms[k], big.NewRat(int64(k), 1)))
	}
	return slope
}

// ratRest is the tests' own rest, with fractions, which has no terms for 0.
func ratRest(a, b []*big.Rat) []*big.Rat {
	rest := append([]*big.Rat{}, a...)
	for len(rest) >= len(b) {
		times := new(big.Rat).Quo(rest[len(rest)-1], b[len(b)-1])
		move := len(rest) - len(b)
		for i, term := range b {
			rest[move+i] = new(big.Rat).Sub(rest[move+i], new(big.Rat).Mul(times, term))
		}
		rest = ratTrimmed(rest)
	}
	return rest
}

// ratChain is the tests' own chain, the polynomials themselves.
func ratChain(r impl.Real) [][]*big.Rat {
	chain := [][]*big.Rat{ratTerms(r)}
	next := ratSlope(chain[0])
	for len(next) > 0 {
		chain = append(chain, next)
		next = ratRest(chain[len(chain)-2], next)
		for k, term := range next {
			next[k] = new(big.Rat).Neg(term)
		}
	}
	return chain
}

func TestChainOf(t *testing.T) {
	cases := []struct {
		r    impl.Real
		want int64
	}{
		{realOf(5), 1}, {realOf(-greatTerm), 1}, {realOf(0, 1), 2}, {realOf(7, -3), 2}, {realOf(-2, 0, 1), 3}, {realOf(1, 0, 1), 3}, {realOf(1, -2, 1), 2}, {realOf(0, 0, 1), 2}, {realOf(0, 0, -5), 2},
		{realOf(0, -1, 0, 1), 4}, {realOf(-1, 3, -3, 1), 2}, {realOf(2, -3, 0, 1), 3}, {realPower(8, 1), 2}, {realOf(-1, 0, 0, 0, 0, 0, 0, 0, 1), 3}, {realOf(0, -1, 0, 0, 0, 0, 0, 0, 1), 4},
		{realOf(1, -8, 28, -56, 70, -56, 28, -8, 1), 2}, {realOf(4, 0, -4, 0, 1), 3}, {eightRoots(), 9}, {realOf(997, -991, -983, 977, 971, -967, -953, 947, -941), 9},
	}
	for _, c := range cases {
		got, ok := impl.ChainOf(c.r)
		wantInteger(t, plain("ChainOf ", c.r), got, ok, c.want)
	}
	for _, r := range validReals() {
		got, ok := impl.ChainOf(r)
		wantInteger(t, plain("ChainOf ", r), got, ok, int64(len(ratChain(r))))
	}
}

func TestChainSigns(t *testing.T) {
	cases := []struct {
		r    impl.Real
		at   place
		want []int64
	}{
		{realOf(-2, 0, 1), place{0, 1}, []int64{-1, 0, 1}},
		{realOf(-2, 0, 1), place{-3, 2}, []int64{1, -1, 1}},
		{realOf(1, 0, 1), place{0, 1}, []int64{1, 0, -1}},
		{realOf(-7), place{5, 3}, []int64{-1}},
		{realOf(3, -1), place{3, 1}, []int64{0, -1}},
		{realOf(1, -2, 1), place{1, 1}, []int64{0, 0}},
		{realOf(1, -2, 1), place{greatPart - 1, greatPart}, []int64{1, -1}},
		{realOf(1, -2, 1), place{greatPart, greatPart - 1}, []int64{1, 1}},
		{realOf(2, -3, 0, 1), place{1, 1}, []int64{0, 0, 0}},
		{realOf(2, -3, 0, 1), place{-2, 1}, []int64{0, 1, -1}},
		{realOf(0, -1, 0, 1), place{0, 1}, []int64{0, -1, 0, 1}},
	}
	for _, c := range cases {
		got, ok := impl.ChainSigns(c.r, c.at[0], c.at[1])
		wantIntegers(t, plain("ChainSigns ", c.r, c.at), got, ok, c.want...)
	}
	for _, r := range validReals() {
		chain := ratChain(r)
		for _, at := range endPlaces() {
			want := []int64{}
			for _, terms := range chain {
				want = append(want, int64(ratAt(terms, at.rat()).Sign()))
			}
			got, ok := impl.ChainSigns(r, at[0], at[1])
			wantIntegers(t, plain("ChainSigns ", r, at), got, ok, want...)
		}
		for _, at := range wrongPlaces() {
			got, ok := impl.ChainSigns(r, at[0], at[1])
			wantNoIntegers(t, plain("ChainSigns ", r, at), got, ok)
		}
	}
}

func TestChainsOfTheSweep(t *testing.T) {
	s := &sweep{}
	for i := range 200 {
		r := realOf(cut(s.terms(impl.MaxReal, []int64{1, 5, greatTerm}[i%3]))...)
		if !impl.ValidReal(r) {
			continue
		}
		chain := ratChain(r)
		count, ok := impl.ChainOf(r)
		wantInteger(t, plain("ChainOf ", r), count, ok, int64(len(chain)))
		at := place{s.integer(greatPart), 1 + int64(s.below(int(greatPart)))}
		signs, ok := impl.ChainSigns(r, at[0], at[1])
		want := []int64{}
		for _, terms := range chain {
			want = append(want, int64(ratAt(terms, at.rat()).Sign()))
		}
		wantIntegers(t, plain("ChainSigns ", r, at), signs, ok, want...)
	}
}

func TestRootsBetween(t *testing.T) {
	two := realOf(2, -3, 1)
	// 1 is there twice, 2 three times.
	often := realTimes(realOf(1, -2, 1), realOf(-8, 12, -6, 1))
	cases := []struct {
		r            impl.Real
		low, high, d int64
		want         int64
	}{
		{two, 1, 2, 1, 1}, {two, 0, 1, 1, 1}, {two, 0, 2, 1, 2}, {two, 2, 3, 1, 0}, {two, 1, 1, 1, 0}, {two, 2, 2, 1, 0}, {two, 0, 0, 1, 0},
		{two, 0, 999999, greatPart, 0}, {two, 999999, greatPart, greatPart, 1}, {two, greatPart, greatPart, greatPart, 0}, {two, -greatPart, greatPart, greatPart, 1},
		{two, -greatPart, greatPart, 1, 2}, {two, 3, 4, 3, 0}, {two, 2, 3, 3, 1}, {two, 2, 6, 3, 2}, {two, 3, 6, 3, 1}, {two, 3, 5, 3, 0},
		{often, 1, 2, 1, 1}, {often, 0, 1, 1, 1}, {often, 0, 2, 1, 2}, {often, 2, 3, 1, 0}, {often, 1, 1, 1, 0}, {often, 2, 2, 1, 0}, {often, -5, 5, 1, 2}, {often, 3, 4, 2, 1}, {often, 2, 3, 2, 0}, {often, 1, 2, 2, 1},
		{often, 999999, greatPart, greatPart, 1}, {often, greatPart - 2, greatPart - 1, greatPart, 0},
		{realOf(-1, 0, 2), 707106, 707107, greatPart, 1}, {realOf(-1, 0, 2), 707107, 707108, greatPart, 0}, {realOf(-1, 0, 2), 707105, 707106, greatPart, 0}, {realOf(-1, 0, 2), -707107, -707106, greatPart, 1}, {realOf(-1, 0, 2), -707107, 707107, greatPart, 2},
		{realOf(0, 1), -1, 0, greatPart, 1}, {realOf(0, 1), 0, 1, greatPart, 0}, {realOf(0, 1), 0, 0, 1, 0}, {realPower(8, -7), -1, 0, 1, 1}, {realPower(8, -7), 0, 1, 1, 0},
		{realOf(1, 0, 1), -greatPart, greatPart, 1, 0}, {realOf(5), -greatPart, greatPart, 1, 0}, {realOf(-5), 0, 0, 1, 0},
		{realOf(-1000, 1), 999, 1000, 1, 1}, {realOf(-1000, 1), 1000, 1001, 1, 0}, {realOf(1000, 1), -1000, -999, 1, 0}, {realOf(1000, 1), -1001, -1000, 1, 1},
		{eightRoots(), -1, 1, 1, 8}, {eightRoots(), 0, 1, 1, 4}, {eightRoots(), 98, 99, 100, 1}, {eightRoots(), 19, 20, 100, 1}, {eightRoots(), 20, 55, 100, 0},
		{nearRoots()[0], 45453, 45456, greatPart, 2}, {nearRoots()[0], 45454, 45455, greatPart, 0}, {tooNearRoots()[3], 45454, 45455, greatPart, 2}, {tooNearRoots()[3], 1, 1000, 22, 2}, {tooNearRoots()[3], -1000, 1, 22, 2},
	}
	for _, c := range cases {
		got, ok := impl.RootsBetween(c.r, c.low, c.high, c.d)
		wantInteger(t, plain("RootsBetween ", c), got, ok, c.want)
	}
	for _, c := range [][3]int64{{2, 1, 1}, {0, -1, 7}, {greatPart, -greatPart, 1}, {-greatPart, greatPart + 1, 1}, {-greatPart - 1, 0, 1}, {0, 1, 0}, {0, 1, -1}, {-1, -1, -1}, {0, 1, greatPart + 1}, {0, 1, math.MinInt64}, {0, 1, math.MaxInt64}, {math.MinInt64, math.MaxInt64, 1}, {math.MinInt64, 0, 1}, {0, math.MaxInt64, 1}} {
		got, ok := impl.RootsBetween(two, c[0], c[1], c[2])
		wantNoInteger(t, plain("RootsBetween ", c), got, ok)
	}
}

type countCase struct {
	r    impl.Real
	want int64
}

func rootCounts() []countCase {
	list := []countCase{
		{realOf(5), 0}, {realOf(-greatTerm), 0}, {realOf(0, 1), 1}, {realOf(3, -7), 1}, {realOf(-2, 0, 1), 2}, {realOf(2, 0, 1), 0}, {realOf(1, -2, 1), 1}, {realOf(0, 0, 1), 1}, {realOf(-1, 3, -3, 1), 1}, {realOf(0, -1, 0, 1), 3},
		{realOf(4, 0, -4, 0, 1), 2}, {realOf(4, 0, 4, 0, 1), 0}, {realOf(0, 0, 4, 0, -4, 0, 1), 3}, {realPower(8, -greatTerm), 1}, {realOf(1, -8, 28, -56, 70, -56, 28, -8, 1), 1}, {realOf(-1, 0, 0, 0, 0, 0, 0, 0, 1), 2}, {realOnes(9), 0}, {realOnes(8), 1},
		{eightRoots(), 8}, {realOf(0, -36, 0, 49, 0, -14, 0, 1), 7}, {realOf(greatTerm, 1), 1}, {realOf(greatTerm, greatTerm, -1), 2}, {realOf(-999, 1000), 1},
		{realOf(2, -88, 968, 0, 0, 0, 0, 0, 1), 0}, {realOf(2, -88, 968), 1}, {realOf(1, -88, 968), 2}, {realOf(3, -88, 968), 0},
	}
	for _, r := range nearRoots() {
		list = append(list, countCase{r, int64(3 + len(r.Terms)%2)})
	}
	for _, r := range tooNearRoots() {
		list = append(list, countCase{r, 4})
	}
	return list
}

func TestRealRoots(t *testing.T) {
	for _, c := range rootCounts() {
		got, ok := impl.RealRoots(c.r)
		wantInteger(t, plain("RealRoots ", c.r), got, ok, c.want)
		mirror, _ := impl.MirrorReal(c.r)
		got, ok = impl.RealRoots(mirror)
		wantInteger(t, plain("RealRoots ", mirror), got, ok, c.want)
	}
}

func TestReachOf(t *testing.T) {
	cases := []struct {
		r    impl.Real
		want int64
	}{
		{realOf(1), 0}, {realOf(-1000), 0}, {realOf(0, 1), 1}, {realOf(0, 0, 0, -7), 1}, {realOf(-2, 0, 1), 2}, {realOf(1, 1000), 1},
		// 1 plus the quotient is just below, equal to and just above 2, 4 and 8.
		{realOf(998, 999), 1}, {realOf(999, 999), 2}, {realOf(-999, 998), 2}, {realOf(998, -333), 2}, {realOf(-999, 333), 3}, {realOf(1000, 333), 3},
		{realOf(993, 142), 3}, {realOf(994, 142), 4}, {realOf(995, -142), 4}, {realOf(2, 1), 2}, {realOf(3, 1), 3}, {realOf(4, -1), 3},
		{realOf(254, 1), 8}, {realOf(255, 1), 9}, {realOf(256, 1), 9}, {realOf(510, -1), 9}, {realOf(511, 1), 10}, {realOf(512, 1), 10}, {realOf(-1000, 1), 10},
		// The greatest quotient is that of any term but the last one.
		{realOf(1, -7, 1, 1), 4}, {realOf(1, 1, 7, 1), 4}, {realOf(-7, 1, 1, -1), 4}, {realOf(7, 1, 1, 2), 3}, {realOf(0, 0, 0, 0, 0, 0, 0, 1000, 1), 10}, {realOf(1, 1, 1000), 1},
	}
	for _, c := range cases {
		got, ok := impl.ReachOf(c.r)
		wantInteger(t, plain("ReachOf ", c.r), got, ok, c.want)
	}
	for m := int64(1); m <= greatTerm; m++ {
		for _, last := range []int64{1, 2, 3, 7, 333, 999, 1000} {
			want := int64(0)
			for big.NewRat(1<<want, 1).Cmp(big.NewRat(last+m, last)) <= 0 {
				want++
			}
			got, ok := impl.ReachOf(realOf(1, -m, -last))
			wantInteger(t, plain("ReachOf of the quotient ", m, last), got, ok, want)
		}
	}
}
