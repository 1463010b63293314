package tests

import (
	"math"
	"slices"
	"testing"

	"loop.example/g01358/impl"
)

// realOutcome is what a function has returned, and how to write to all memory
// that it has returned.
type realOutcome struct {
	ok, isZero bool
	value      string
	spoil      func()
}

func spoilList[T any](list []T) {
	var none T
	for i := range list[:cap(list)] {
		list[:cap(list)][i] = none
	}
}

func tellList[T any](list []T, ok bool) realOutcome {
	return realOutcome{ok, len(list) == 0, plain(list), func() { spoilList(list) }}
}
func tellValue[T comparable](x T, ok bool) realOutcome {
	var none T
	return realOutcome{ok, x == none, plain(x), func() {}}
}
func tellReal(r impl.Real, ok bool) realOutcome { return tellList(r.Terms, ok) }
func tellPoly(p impl.Poly, ok bool) realOutcome { return tellList(p.Terms, ok) }
func tellLeast(x int64, value float32, ok bool) realOutcome {
	return realOutcome{ok, x == 0 && sameFloat(value, plusZero), plain(x, value), func() {}}
}

// realInput is what a function of chapter 4 may take.
type realInput struct {
	a, b               impl.Real
	n, low, high, d    int64
	shift, left, right int64
	gap                impl.Gap
	roots              []int64
	list               []impl.Real
	workers            int64
	rootN, rootD       int64
}

// goodReals is an input for which all functions succeed.
func goodReals() realInput {
	return realInput{
		a: realOf(-1, -1, 2), b: realOf(2, -3, 1), n: 1, low: -3, high: 4, d: 2, shift: 3, left: -4, right: 5, gap: gap(0, 4, 1),
		roots: []int64{1, -2}, list: []impl.Real{realOf(-2, 0, 1), realOf(7)}, workers: 2, rootN: -1, rootD: 2,
	}
}

type realCall struct {
	name string
	// takes tells whether the function takes a.
	takes bool
	call  func(v realInput) realOutcome
}

func callsOfReals() []realCall {
	return []realCall{
		{"ValidReal", false, func(v realInput) realOutcome { return tellValue(impl.ValidReal(v.a), true) }},
		{"SameReal", false, func(v realInput) realOutcome { return tellValue(impl.SameReal(v.a, v.b), true) }},
		{"RealOfRoots", false, func(v realInput) realOutcome { return tellReal(impl.RealOfRoots(v.roots)) }},
		{"SignAt", true, func(v realInput) realOutcome { return tellValue(impl.SignAt(v.a, v.n, v.d)) }},
		{"SignChanges", true, func(v realInput) realOutcome { return tellValue(impl.SignChanges(v.a)) }},
		{"MirrorReal", true, func(v realInput) realOutcome { return tellReal(impl.MirrorReal(v.a)) }},
		{"ChangesAt", true, func(v realInput) realOutcome { return tellValue(impl.ChangesAt(v.a, v.n, v.d)) }},
		{"ChainOf", true, func(v realInput) realOutcome { return tellValue(impl.ChainOf(v.a)) }},
		{"ChainSigns", true, func(v realInput) realOutcome { return tellList(impl.ChainSigns(v.a, v.n, v.d)) }},
		{"RootsBetween", true, func(v realInput) realOutcome { return tellValue(impl.RootsBetween(v.a, v.low, v.high, v.d)) }},
		{"RealRoots", true, func(v realInput) realOutcome { return tellValue(impl.RealRoots(v.a)) }},
		{"ReachOf", true, func(v realInput) realOutcome { return tellValue(impl.ReachOf(v.a)) }},
		{"IsolateRoots", true, func(v realInput) realOutcome { return tellList(impl.IsolateRoots(v.a)) }},
		{"ValidGap", false, func(v realInput) realOutcome { return tellValue(impl.ValidGap(v.gap), true) }},
		{"HoldsRoot", true, func(v realInput) realOutcome { return tellValue(impl.HoldsRoot(v.a, v.gap)) }},
		{"NarrowGap", true, func(v realInput) realOutcome { return tellValue(impl.NarrowGap(v.a, v.gap, v.shift)) }},
		{"MiddleOf", false, func(v realInput) realOutcome { return tellValue(impl.MiddleOf(v.gap)) }},
		{"RootsNear", true, func(v realInput) realOutcome { return tellList(impl.RootsNear(v.a)) }},
		{"RatioRoots", true, func(v realInput) realOutcome { return tellList(impl.RatioRoots(v.a)) }},
		{"DivideRoot", true, func(v realInput) realOutcome { return tellReal(impl.DivideRoot(v.a, v.rootN, v.rootD)) }},
		{"OftenRoot", true, func(v realInput) realOutcome { return tellValue(impl.OftenRoot(v.a, v.rootN, v.rootD)) }},
		{"IsAbove", true, func(v realInput) realOutcome { return tellValue(impl.IsAbove(v.a)) }},
		{"IsAboveOn", true, func(v realInput) realOutcome { return tellValue(impl.IsAboveOn(v.a, v.low, v.high, v.d)) }},
		{"LeastOn", true, func(v realInput) realOutcome { return tellLeast(impl.LeastOn(v.a, v.left, v.right)) }},
		{"RootsShared", false, func(v realInput) realOutcome { return tellList(impl.RootsShared(v.list, v.workers)) }},
		{"PolyOfReal", true, func(v realInput) realOutcome { return tellPoly(impl.PolyOfReal(v.a)) }},
	}
}

func TestInvalidRealsFail(t *testing.T) {
	for _, c := range callsOfReals() {
		if !c.call(goodReals()).ok {
			t.Errorf("%s fails for %v", c.name, goodReals())
		}
		for _, r := range invalidReals() {
			v := goodReals()
			v.a = r
			if o := c.call(v); c.takes && (o.ok || !o.isZero) {
				t.Errorf("%s of %v: %s, %v, but it must fail", c.name, r, o.value, o.ok)
			}
		}
	}
}

// anyReals have all edges of each argument.
func anyReals() []realInput {
	reals := append(validReals(), invalidReals()...)
	gaps := append(validGaps(), invalidGaps()...)
	places := append(wrongPlaces(), endPlaces()...)
	numbers := []int64{0, 1, -1, 2, -50, 50, -51, 51, 30, 31, 8, 9, greatPart, -greatPart, greatPart + 1, 1 << 40, math.MinInt64, math.MaxInt64}
	workers := append(wrongCounts(), counts()...)
	lengths := []int{0, 1, 2, 15, 16, 17}
	inputs := []realInput{}
	at := func(i int) int64 { return numbers[i%len(numbers)] }
	for i, a := range reals {
		for k := range 36 {
			m := 36*i + k
			p, q := places[m%len(places)], places[(m+i)%len(places)]
			b := reals[(m+i)%len(reals)]
			inputs = append(inputs, realInput{
				a: a, b: b, n: p[0], d: p[1], low: min(p[0], q[0]), high: max(p[0], q[0]), shift: at(m + 3*i), left: at(m), right: at(m / 2), gap: gaps[(m+i)%len(gaps)],
				roots: append([]int64{at(m)}, make([]int64, k%9)...), list: repeated(b, lengths[k%6]), workers: workers[(k+i)%len(workers)], rootN: q[0], rootD: q[1],
			})
		}
	}
	return inputs
}

func TestRealsReturnForAll(t *testing.T) {
	for i, v := range anyReals() {
		before := plain(v)
		for _, c := range callsOfReals() {
			one := c.call(v)
			if !one.ok && !one.isZero {
				t.Errorf("%s fails for %v, but returns %s", c.name, v, one.value)
			}
			if i%3 > 0 {
				continue
			}
			if two := c.call(v); one.ok != two.ok || one.value != two.value {
				t.Errorf("%s has different results for %v: %s and %s", c.name, v, one.value, two.value)
			}
		}
		if plain(v) != before {
			t.Fatalf("an argument has been changed: %s, then %v", before, v)
		}
	}
}

// roomyReals returns an input whose lists have capacity behind them, and the
// lists with what is behind them.
func roomyReals(r impl.Real) (realInput, [][]int64, []impl.Real) {
	all := [][]int64{}
	with := func(list []int64) []int64 {
		all = append(all, slices.Clip(append(slices.Clone(list), 5, 6, 7, 8)))
		return spare(all[len(all)-1], len(list))
	}
	v := goodReals()
	v.a, v.b, v.roots = realOf(with(r.Terms)...), realOf(with(v.b.Terms)...), with(v.roots)
	list := []impl.Real{realOf(with(r.Terms)...), realOf(with([]int64{-2, 0, 1})...), realOf(9, 9), realOf(8)}
	v.list = spare(list, 2)
	return v, all, list
}

func (v realInput) stayed(all [][]int64, list []impl.Real) bool {
	for i, terms := range [][]int64{v.a.Terms, v.b.Terms, v.roots, v.list[0].Terms, v.list[1].Terms} {
		if !unchanged(terms, all[i]) {
			return false
		}
	}
	return plain(v.list[:4]) == plain(list)
}

func TestRealsStayAsTheyAre(t *testing.T) {
	for _, r := range validReals() {
		for _, c := range callsOfReals() {
			v, all, list := roomyReals(r)
			first := c.call(v)
			if !v.stayed(all, list) {
				t.Errorf("%s has changed an argument: %v", c.name, v)
			}
			first.spoil()
			if !v.stayed(all, list) {
				t.Errorf("a result of %s shares memory with an argument: %v", c.name, v)
			}
			if second := c.call(v); second.ok != first.ok || second.value != first.value {
				t.Errorf("%s keeps something: %s, then %s", c.name, first.value, second.value)
			}
		}
	}
}

func TestNilAndEmptyRealsAreOneValue(t *testing.T) {
	for _, c := range callsOfReals() {
		none, empty := goodReals(), goodReals()
		none.a.Terms, none.roots, none.list = nil, nil, nil
		empty.a.Terms, empty.roots, empty.list = []int64{}, []int64{}, []impl.Real{}
		if one, two := c.call(none), c.call(empty); one.ok != two.ok || one.value != two.value {
			t.Errorf("%s has different results for nil and empty lists: %s and %s", c.name, one.value, two.value)
		}
	}
}
