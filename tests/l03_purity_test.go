package tests

import (
	"math"
	"slices"
	"testing"

	"loop.example/g01358/impl"
)

// wholeOutcome is what a function has returned: lists of terms, whether those
// of wholes or others, and a number.
type wholeOutcome struct {
	ok    bool
	lists [][]int64
	value any
}

func ofWhole(p impl.Whole, ok bool) wholeOutcome { return wholeOutcome{ok, [][]int64{p.Terms}, nil} }
func ofTerms(list []int64, ok bool) wholeOutcome { return wholeOutcome{ok, [][]int64{list}, nil} }
func ofInteger(n int64, ok bool) wholeOutcome    { return wholeOutcome{ok, nil, n} }
func ofTwo(a, b impl.Whole, ok bool) wholeOutcome {
	return wholeOutcome{ok, [][]int64{a.Terms, b.Terms}, nil}
}
func ofMany(list []impl.Whole, ok bool) wholeOutcome {
	o := wholeOutcome{ok, nil, nil}
	for _, p := range list {
		o.lists = append(o.lists, p.Terms)
	}
	return o
}
func ofShared(list [][]impl.Whole, ok bool) wholeOutcome {
	o := wholeOutcome{ok, nil, nil}
	for _, factors := range list {
		o.lists = append(o.lists, ofMany(factors, true).lists...)
	}
	return o
}

// isZero reports whether all results but the success are zero values.
func (o wholeOutcome) isZero() bool {
	for _, list := range o.lists {
		if len(list) > 0 {
			return false
		}
	}
	return o.value == nil || o.value == int64(0)
}

func (o wholeOutcome) text() string {
	return plain(o.ok, o.lists, o.value)
}

// wholeInput is what a function of wholes may take.
type wholeInput struct {
	wholes               [3]impl.Whole
	x, y, prime, workers int64
	terms                []int64
	list                 []impl.Whole
}

// goodInput is one for which all functions succeed.
func goodInput() wholeInput {
	return wholeInput{[3]impl.Whole{whole(0, 1, 1), whole(0, 1), whole(1, 1)}, 1, 1, 2, 1, []int64{1, 2}, []impl.Whole{whole(0, 1, 1)}}
}

// wholeCall takes some of the three wholes, the last ones of which must be
// over the prime.
type wholeCall struct {
	name        string
	takes, over int
	call        func(v wholeInput) wholeOutcome
}

func callsOfWholes() []wholeCall {
	return []wholeCall{
		{"AddWholes", 2, 0, func(v wholeInput) wholeOutcome { return ofWhole(impl.AddWholes(v.wholes[0], v.wholes[1], v.x, v.y)) }},
		{"MulWholes", 2, 0, func(v wholeInput) wholeOutcome { return ofWhole(impl.MulWholes(v.wholes[0], v.wholes[1])) }},
		{"WholeAt", 1, 0, func(v wholeInput) wholeOutcome { return ofInteger(impl.WholeAt(v.wholes[0], v.x)) }},
		{"SlopeWhole", 1, 0, func(v wholeInput) wholeOutcome { return ofWhole(impl.SlopeWhole(v.wholes[0])) }},
		{"ContentOf", 1, 0, func(v wholeInput) wholeOutcome { return ofInteger(impl.ContentOf(v.wholes[0])) }},
		{"PrimitiveOf", 1, 0, func(v wholeInput) wholeOutcome { return ofWhole(impl.PrimitiveOf(v.wholes[0])) }},
		{"ExactQuotient", 2, 0, func(v wholeInput) wholeOutcome { return ofWhole(impl.ExactQuotient(v.wholes[0], v.wholes[1])) }},
		{"CommonWhole", 2, 0, func(v wholeInput) wholeOutcome { return ofWhole(impl.CommonWhole(v.wholes[0], v.wholes[1])) }},
		{"SquareFree", 1, 0, func(v wholeInput) wholeOutcome { return ofMany(impl.SquareFree(v.wholes[0])) }},
		{"ResultantOf", 2, 0, func(v wholeInput) wholeOutcome { return ofInteger(impl.ResultantOf(v.wholes[0], v.wholes[1])) }},
		{"DiscriminantOf", 1, 0, func(v wholeInput) wholeOutcome { return ofInteger(impl.DiscriminantOf(v.wholes[0])) }},
		{"FractionRoots", 1, 0, func(v wholeInput) wholeOutcome { return ofTerms(impl.FractionRoots(v.wholes[0])) }},
	}
}

func callsOverPrimes() []wholeCall {
	return []wholeCall{
		{"OverPrime", 1, 0, func(v wholeInput) wholeOutcome { return ofWhole(impl.OverPrime(v.wholes[0], v.prime)) }},
		{"MulOver", 2, 2, func(v wholeInput) wholeOutcome { return ofWhole(impl.MulOver(v.wholes[0], v.wholes[1], v.prime)) }},
		{"DivideOver", 2, 2, func(v wholeInput) wholeOutcome { return ofTwo(impl.DivideOver(v.wholes[0], v.wholes[1], v.prime)) }},
		{"CommonOver", 2, 2, func(v wholeInput) wholeOutcome { return ofWhole(impl.CommonOver(v.wholes[0], v.wholes[1], v.prime)) }},
		{"PowerOver", 2, 2, func(v wholeInput) wholeOutcome {
			return ofWhole(impl.PowerOver(v.wholes[0], v.x, v.wholes[1], v.prime))
		}},
		{"RootsOver", 1, 1, func(v wholeInput) wholeOutcome { return ofTerms(impl.RootsOver(v.wholes[0], v.prime)) }},
		{"FactorsOver", 1, 1, func(v wholeInput) wholeOutcome { return ofMany(impl.FactorsOver(v.wholes[0], v.prime)) }},
		{"FactorsShared", 0, 0, func(v wholeInput) wholeOutcome { return ofShared(impl.FactorsShared(v.list, v.prime, v.workers)) }},
		{"CountPrimes", 0, 0, func(v wholeInput) wholeOutcome { return ofInteger(impl.CountPrimes(v.x, v.prime)) }},
		{"LiftPair", 3, 2, func(v wholeInput) wholeOutcome {
			return ofTwo(impl.LiftPair(v.wholes[0], v.wholes[1], v.wholes[2], v.prime))
		}},
	}
}

func allWholeCalls() []wholeCall {
	return append(append(callsOfWholes(), callsOverPrimes()...), []wholeCall{
		{"ValidWhole", 0, 0, func(v wholeInput) wholeOutcome { return wholeOutcome{true, nil, impl.ValidWhole(v.wholes[0])} }},
		{"SameWhole", 0, 0, func(v wholeInput) wholeOutcome {
			return wholeOutcome{true, nil, impl.SameWhole(v.wholes[0], v.wholes[1])}
		}},
		{"WholeFrom", 0, 0, func(v wholeInput) wholeOutcome { return ofWhole(impl.WholeFrom(v.terms)) }},
		{"CyclotomicOf", 0, 0, func(v wholeInput) wholeOutcome { return ofWhole(impl.CyclotomicOf(v.x)) }},
	}...)
}

func wantFailure(t *testing.T, c wholeCall, v wholeInput) {
	t.Helper()
	if o := c.call(v); o.ok || !o.isZero() {
		t.Errorf("%s of %v: %s, but it must fail", c.name, v, o.text())
	}
}

// TestInvalidWholesFail has arguments for which the functions succeed if the
// wholes are valid.
func TestInvalidWholesFail(t *testing.T) {
	for _, c := range allWholeCalls() {
		if !c.call(goodInput()).ok {
			t.Errorf("%s fails for %v", c.name, goodInput())
		}
		for i := range c.takes {
			for _, p := range invalidWholes() {
				v := goodInput()
				v.wholes[i] = p
				wantFailure(t, c, v)
			}
		}
	}
}

func TestWholesNotOverThePrimeFail(t *testing.T) {
	for _, c := range callsOverPrimes() {
		for _, prime := range notPrimes() {
			v := goodInput()
			v.prime = prime
			wantFailure(t, c, v)
		}
		for i := c.takes - c.over; i < c.takes; i++ {
			for _, prime := range primes() {
				for _, p := range []impl.Whole{whole(prime), whole(-1), whole(prime, 1), whole(-1, 1), whole(1, prime), whole(1, -1), whole(0, prime+1, 1), whole(great, 1)} {
					v := goodInput()
					v.prime = prime
					v.wholes[i] = p
					wantFailure(t, c, v)
				}
			}
		}
	}
}

// anyWholes have all edges of each argument.
func anyWholes() []wholeInput {
	wholes := append(validWholes(), invalidWholes()...)
	numbers := []int64{0, 1, 2, -1, 3, 6, 7, 12, 30, 31, 1000, -1000, 1001, -1001, 1000000, 1000001, math.MinInt64, math.MaxInt64}
	moduli := append(notPrimes(), append(primes(), append(primes(), primes()...)...)...)
	workers := append(wrongCounts(), counts()...)
	lengths := []int{0, 1, 2, 7, 8, 9}
	inputs := []wholeInput{}
	for i, a := range wholes {
		for k, b := range wholes {
			n := i*len(wholes) + k
			inputs = append(inputs, wholeInput{
				[3]impl.Whole{a, b, wholes[(i+k)%len(wholes)]}, numbers[n%len(numbers)], numbers[(n+i)%len(numbers)], moduli[n%len(moduli)], workers[n%len(workers)],
				append(append([]int64{}, a.Terms...), make([]int64, k%3)...), repeated(b, lengths[n%len(lengths)]),
			})
		}
	}
	return inputs
}

func TestWholesReturnForAll(t *testing.T) {
	for _, v := range anyWholes() {
		before := plain(v)
		for _, c := range allWholeCalls() {
			one, two := c.call(v), c.call(v)
			if one.text() != two.text() {
				t.Errorf("%s has different results for %v: %s and %s", c.name, v, one.text(), two.text())
			}
			if !one.ok && !one.isZero() {
				t.Errorf("%s fails for %v, but returns %s", c.name, v, one.text())
			}
		}
		if plain(v) != before {
			t.Fatalf("an argument has been changed: %s, then %v", before, v)
		}
	}
}

// keptTriples are wholes of which the first one can be lifted, and wholes of
// one term.
func keptTriples(prime int64) [][3]impl.Whole {
	g, h := whole(1, 1), whole(0, 0, 1)
	p := times(g, h)
	p.Terms[1] += prime
	return [][3]impl.Whole{{p, g, h}, {g, h, p}, {h, p, g}, {whole(0), whole(0), whole(0)}, {whole(1), whole(1), g}, {g, whole(1), h}, {g, whole(0), h}}
}

// roomyWholes returns an input whose lists have capacity behind them, and the
// lists with what is behind them.
func roomyWholes(wholes [3]impl.Whole, prime int64) (wholeInput, [][]int64) {
	all := [][]int64{}
	with := func(list []int64) []int64 {
		all = append(all, slices.Clip(append(slices.Clone(list), 5, 6, 7, 8)))
		return spare(all[len(all)-1], len(list))
	}
	v := wholeInput{x: 3, y: 2, prime: prime, workers: 2}
	for i, p := range wholes {
		v.wholes[i].Terms = with(p.Terms)
	}
	v.terms = with([]int64{1, 2, 3, 0, 0})
	v.list = []impl.Whole{whole(with([]int64{0, 0, 1, 1})...), whole(with([]int64{1, 1})...)}
	return v, all
}

func (v wholeInput) slices() [][]int64 {
	return [][]int64{v.wholes[0].Terms, v.wholes[1].Terms, v.wholes[2].Terms, v.terms, v.list[0].Terms, v.list[1].Terms}
}

func stayed(v wholeInput, all [][]int64) bool {
	for i, list := range v.slices() {
		if !unchanged(list, all[i]) {
			return false
		}
	}
	return true
}

func TestWholesStayAsTheyAre(t *testing.T) {
	for _, prime := range primes() {
		for _, wholes := range keptTriples(prime) {
			for _, c := range allWholeCalls() {
				v, all := roomyWholes(wholes, prime)
				first := c.call(v)
				if !stayed(v, all) {
					t.Errorf("%s has changed an argument: %v", c.name, v)
				}
				told := first.text()
				for i, list := range first.lists {
					spoilTerms(list)
					if next := c.call(v).lists; plain(first.lists[i+1:]) != plain(next[i+1:]) {
						t.Errorf("two results of %s share memory for %v", c.name, v)
					}
				}
				if !stayed(v, all) {
					t.Errorf("a result of %s shares memory with an argument: %v", c.name, v)
				}
				if second := c.call(v); second.text() != told {
					t.Errorf("%s keeps something: %s, then %s", c.name, told, second.text())
				}
			}
		}
	}
}

// spoilTerms writes to a list, and to the capacity behind it.
func spoilTerms(list []int64) {
	for i := range list[:cap(list)] {
		list[:cap(list)][i] = -77
	}
}

func TestFactorsAreApart(t *testing.T) {
	for _, p := range []impl.Whole{wholePower(6, 1), whole(1, 0, 1, 0, 1), whole(1, 1)} {
		got, _ := impl.FactorsShared(repeated(p, 8), 2, 8)
		told := plain(got)
		for i, factors := range got {
			for k, factor := range factors {
				kept := append([]int64{}, factor.Terms...)
				spoilTerms(factor.Terms)
				copy(got[i][k].Terms, kept)
				if plain(got) != told {
					t.Fatalf("factors of %v share memory: %s, then %v", p, told, got)
				}
			}
		}
	}
}

func TestNilAndEmptyTermsAreOneValue(t *testing.T) {
	for _, c := range allWholeCalls() {
		none, empty := goodInput(), goodInput()
		none.terms, none.list = nil, nil
		empty.terms, empty.list = []int64{}, []impl.Whole{}
		if one, two := c.call(none).text(), c.call(empty).text(); one != two {
			t.Errorf("%s has different results for no list: %s and %s", c.name, one, two)
		}
		for i := range 3 {
			none, empty = goodInput(), goodInput()
			none.wholes[i].Terms, empty.wholes[i].Terms = nil, []int64{}
			if one, two := c.call(none).text(), c.call(empty).text(); one != two {
				t.Errorf("%s has different results for no terms: %s and %s", c.name, one, two)
			}
		}
	}
	got, ok := impl.FactorsShared(nil, 2, 8)
	if !ok || len(got) != 0 {
		t.Errorf("FactorsShared of no wholes: %v, %v", got, ok)
	}
}
