package tests

import (
	"math"
	"testing"

	"loop.example/g01358/impl"
)

type factorCase struct {
	p     impl.Whole
	prime int64
	want  []impl.Whole
}

// factorCases are in the order of degrees, then of terms, the highest one
// first.
func factorCases() []factorCase {
	return []factorCase{
		{whole(1, 0, 1), 2, []impl.Whole{whole(1, 1), whole(1, 1)}},
		{whole(2, 0, 2), 3, []impl.Whole{whole(1, 0, 1)}},
		{whole(0, 1), 2, []impl.Whole{whole(0, 1)}},
		{whole(1, 2), 5, []impl.Whole{whole(3, 1)}},
		{wholePower(6, 12), 13, repeated(whole(0, 1), 6)},
		{whole(1, 1, 1), 2, []impl.Whole{whole(1, 1, 1)}},
		{whole(1, 0, 1, 0, 1), 2, []impl.Whole{whole(1, 1, 1), whole(1, 1, 1)}},
		{whole(1, 1, 0, 0, 1), 2, []impl.Whole{whole(1, 1, 0, 0, 1)}},
		{whole(1, 1, 0, 0, 0, 0, 1), 2, []impl.Whole{whole(1, 1, 0, 0, 0, 0, 1)}},
		{whole(1, 1, 1, 1, 1, 1, 1), 2, []impl.Whole{whole(1, 1, 0, 1), whole(1, 0, 1, 1)}},
		{whole(6, 0, 0, 0, 0, 0, 1), 7, []impl.Whole{whole(1, 1), whole(2, 1), whole(3, 1), whole(4, 1), whole(5, 1), whole(6, 1)}},
		{timesOver(5, whole(4, 4, 1), whole(3, 1), whole(3, 1), whole(2), whole(0, 1)), 5, []impl.Whole{whole(0, 1), whole(2, 1), whole(2, 1), whole(3, 1), whole(3, 1)}},
		{timesOver(3, whole(2, 1, 1), whole(1, 0, 1), whole(2, 2, 1)), 3, []impl.Whole{whole(1, 0, 1), whole(2, 1, 1), whole(2, 2, 1)}},
		{timesOver(3, whole(0, 1), whole(1, 2, 0, 0, 0, 1)), 3, []impl.Whole{whole(0, 1), whole(1, 2, 0, 0, 0, 1)}},
		{timesOver(3, whole(2, 2, 0, 1), whole(1, 2, 0, 1)), 3, []impl.Whole{whole(1, 2, 0, 1), whole(2, 2, 0, 1)}},
		{timesOver(13, whole(2, 0, 0, 1), whole(2, 0, 0, 1)), 13, []impl.Whole{whole(2, 0, 0, 1), whole(2, 0, 0, 1)}},
		{timesOver(13, whole(5, 12, 12, 1), whole(11, 5, 0, 1)), 13, []impl.Whole{whole(11, 5, 0, 1), whole(5, 12, 12, 1)}},
		{timesOver(13, whole(7), whole(6, 12, 12, 1), whole(4, 12, 12, 1)), 13, []impl.Whole{whole(4, 12, 12, 1), whole(6, 12, 12, 1)}},
	}
}

func TestFactorsOver(t *testing.T) {
	for _, c := range factorCases() {
		got, ok := impl.FactorsOver(c.p, c.prime)
		wantWholes(t, plain("FactorsOver ", c.p, c.prime), got, ok, c.want...)
	}
	for _, p := range []impl.Whole{whole(0), whole(1), whole(2), wholePower(7, 1), wholeOnes(8), wholeOnes(17)} {
		got, ok := impl.FactorsOver(p, 3)
		wantNoWholes(t, plain("FactorsOver ", p), got, ok)
	}
}

// TestFactorsOfAll has all wholes of low degrees: those without factors are
// found by telling all products.
func TestFactorsOfAll(t *testing.T) {
	for prime, most := range map[int64]int{2: 6, 3: 5, 5: 3, 7: 3, 11: 2, 13: 2} {
		parted := map[string]bool{}
		for degree := 1; degree <= most; degree++ {
			for low := 1; 2*low <= degree; low++ {
				for _, a := range monics(low, prime) {
					for _, b := range monics(degree-low, prime) {
						parted[plain(timesOver(prime, a, b))] = true
					}
				}
			}
			count := int64(0)
			for _, p := range monics(degree, prime) {
				wantFactorsOf(t, p, prime, parted)
				if !parted[plain(p)] {
					count++
				}
			}
			got, ok := impl.CountPrimes(int64(degree), prime)
			wantInteger(t, plain("CountPrimes ", degree, " ", prime), got, ok, count)
		}
	}
}

// wantFactorsOf wants factors in order that are not parted and make p again.
func wantFactorsOf(t *testing.T, p impl.Whole, prime int64, parted map[string]bool) {
	t.Helper()
	factors, ok := impl.FactorsOver(p, prime)
	if !ok || !impl.SameWhole(timesOver(prime, factors...), p) {
		t.Fatalf("the factors of %v over %d are %v, %v", p, prime, factors, ok)
	}
	for i, factor := range factors {
		if len(factor.Terms) < 2 || parted[plain(factor)] || i > 0 && comesBefore(factor, factors[i-1]) {
			t.Fatalf("the factors of %v over %d are %v", p, prime, factors)
		}
	}
}

func comesBefore(a, b impl.Whole) bool {
	if len(a.Terms) != len(b.Terms) {
		return len(a.Terms) < len(b.Terms)
	}
	for k := len(a.Terms) - 1; k >= 0; k-- {
		if a.Terms[k] != b.Terms[k] {
			return a.Terms[k] < b.Terms[k]
		}
	}
	return false
}

func TestFactorsShared(t *testing.T) {
	const prime = 13
	list := []impl.Whole{}
	want := [][]impl.Whole{}
	s := &sweep{}
	for len(list) < 8 {
		p := timesOver(prime, whole(1+int64(len(list))), s.monic(2, prime), s.monic(3, prime))
		factors, _ := impl.FactorsOver(p, prime)
		list, want = append(list, p), append(want, factors)
	}
	for n := range len(list) + 1 {
		for _, workers := range counts() {
			got, ok := impl.FactorsShared(list[:n], prime, workers)
			if !ok || plain(got) != plain(want[:n]) {
				t.Errorf("FactorsShared of %d by %d: %v, %v, want %v", n, workers, got, ok, want[:n])
			}
		}
	}
	for _, workers := range wrongCounts() {
		for _, n := range []int{0, 1, 8} {
			wantNoShared(t, plain(n, " by ", workers), list[:n], prime, workers)
		}
	}
	wantNoShared(t, "9 wholes", append(list[:8:8], list[0]), prime, 2)
	wantNoShared(t, "9 equal ones", repeated(whole(0, 1), 9), prime, 8)
	for _, wrong := range append(invalidWholes(), whole(0), whole(1), whole(13, 1), whole(-1, 1), wholeOnes(8)) {
		for i := range list {
			spoiled := append([]impl.Whole{}, list...)
			spoiled[i] = wrong
			wantNoShared(t, plain(wrong, " at ", i), spoiled, prime, 3)
		}
	}
	for _, n := range notPrimes() {
		wantNoShared(t, plain("none over ", n), nil, n, 1)
		wantNoShared(t, plain("one over ", n), []impl.Whole{whole(0, 1)}, n, 1)
	}
}

func wantNoShared(t *testing.T, what string, list []impl.Whole, prime, workers int64) {
	t.Helper()
	if got, ok := impl.FactorsShared(list, prime, workers); ok || len(got) != 0 {
		t.Errorf("FactorsShared of %s: %v, %v, but it must fail", what, got, ok)
	}
}

func TestCountPrimes(t *testing.T) {
	cases := []struct{ degree, prime, want int64 }{
		{3, 2, 2}, {1, 2, 2}, {1, 13, 13}, {2, 2, 1}, {2, 3, 3}, {2, 13, 78}, {3, 13, 728}, {4, 2, 3}, {4, 13, 7098}, {5, 2, 6}, {5, 13, 74256},
		{6, 2, 9}, {6, 3, 116}, {6, 5, 2580}, {6, 7, 19544}, {6, 11, 295020}, {6, 13, 804076},
	}
	for _, c := range cases {
		got, ok := impl.CountPrimes(c.degree, c.prime)
		wantInteger(t, plain("CountPrimes ", c), got, ok, c.want)
	}
	for _, degree := range []int64{math.MinInt64, -1, 0, 7, 8, math.MaxInt64} {
		got, ok := impl.CountPrimes(degree, 2)
		wantNoInteger(t, plain("CountPrimes ", degree), got, ok)
	}
	for _, n := range notPrimes() {
		got, ok := impl.CountPrimes(1, n)
		wantNoInteger(t, plain("CountPrimes over ", n), got, ok)
	}
}
