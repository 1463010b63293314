package tests

import (
	"math"
	"slices"
	"strings"
	"testing"

	"loop.example/g01358/impl"
)

func tellFit(p, q impl.Poly, ok bool) realOutcome {
	return realOutcome{ok, len(p.Terms) == 0 && len(q.Terms) == 0, plain(p, q), func() {
		spoilList(p.Terms)
		spoilList(q.Terms)
	}}
}
func spoilSaved(s impl.Saved) {
	spoilList(s.Poly.Terms)
	spoilList(s.Whole.Terms)
}
func tellSaved(s impl.Saved, ok bool) realOutcome {
	return realOutcome{ok, sameSaved(s, impl.Saved{}), plain(s), func() { spoilSaved(s) }}
}
func tellRecovered(list []impl.Saved, size int64, ok bool) realOutcome {
	return realOutcome{ok, len(list) == 0 && size == 0, plain(list, size), func() {
		for _, s := range list {
			spoilSaved(s)
		}
		spoilList(list)
	}}
}

// goodSeries is an input for which all functions succeed.
func goodSeries() seriesDraw {
	saved := []impl.Saved{savedOf("ab", polyOf(1, complex(2, -3)), whole(4, 5, 6)), savedOf("c", polyOf(7), whole(-8))}
	return seriesDraw{
		a: []complex64{complex(1, 1), 2, -0.5}, b: []complex64{complex(0.5, -1), 3, 0.25}, zero: []complex64{0, 2, complex(1, 1)}, one: []complex64{1, complex(0, 2), 3}, inner: []complex64{0, 2, complex(-1, 1)},
		z: complex(0.25, -1), points: []complex64{1, 2, complex(0, 3)}, above: 1, below: 1, p: polyOf(2, -3, 1), q: polyOf(1, complex(0.5, 1)), count: 5, workers: 2,
		roots: []complex64{1, 3, complex(0, 1)}, parts: []complex64{2, complex(1, 1), 4}, list: []int64{1, 1, 2, 3, 5, 1}, rule: []int64{1, 2}, first: []int64{3, 4}, prime: 7, most: 6,
		weights: []complex64{1, complex(0, 1)}, begin: []complex64{2, 0.5}, saved: saved, text: storedAs(saved[0]) + storedAs(saved[1]), last: storedAs(saved[1]),
	}
}

type seriesCall struct {
	name string
	// takes tells what must be valid: a, b of the same length, the series zero
	// (0), one (1) and inner (i), z, points (g), workers (t), above and below
	// (f), p, q, count, roots, parts (s), list (l), prime (P), rule and first
	// (R), most (m), weights and begin (w), saved (S), and last (L).
	takes string
	call  func(v seriesDraw) realOutcome
}

func callsOfSeries() []seriesCall {
	return []seriesCall{
		{"MulSeries", "ab", func(v seriesDraw) realOutcome { return tellList(impl.MulSeries(v.a, v.b)) }},
		{"InverseSeries", "a", func(v seriesDraw) realOutcome { return tellList(impl.InverseSeries(v.a)) }},
		{"DivSeries", "ab", func(v seriesDraw) realOutcome { return tellList(impl.DivSeries(v.a, v.b)) }},
		{"SlopeSeries", "a", func(v seriesDraw) realOutcome { return tellList(impl.SlopeSeries(v.a)) }},
		{"RiseSeries", "a", func(v seriesDraw) realOutcome { return tellList(impl.RiseSeries(v.a)) }},
		{"ExpSeries", "0", func(v seriesDraw) realOutcome { return tellList(impl.ExpSeries(v.zero)) }},
		{"LogSeries", "1", func(v seriesDraw) realOutcome { return tellList(impl.LogSeries(v.one)) }},
		{"RootSeries", "1", func(v seriesDraw) realOutcome { return tellList(impl.RootSeries(v.one)) }},
		{"PowerSeries", "1z", func(v seriesDraw) realOutcome { return tellList(impl.PowerSeries(v.one, v.z)) }},
		{"ComposeSeries", "ai", func(v seriesDraw) realOutcome { return tellList(impl.ComposeSeries(v.a, v.inner)) }},
		{"TurnSeries", "0", func(v seriesDraw) realOutcome { return tellList(impl.TurnSeries(v.zero)) }},
		{"SeriesAt", "az", func(v seriesDraw) realOutcome { return tellValue(impl.SeriesAt(v.a, v.z)) }},
		{"SeriesShared", "agt", func(v seriesDraw) realOutcome { return tellList(impl.SeriesShared(v.a, v.points, v.workers)) }},
		{"FitQuotient", "af", func(v seriesDraw) realOutcome { return tellFit(impl.FitQuotient(v.a, v.above, v.below)) }},
		{"QuotientAt", "pqz", func(v seriesDraw) realOutcome { return tellValue(impl.QuotientAt(v.p, v.q, v.z)) }},
		{"SeriesOfQuotient", "pqc", func(v seriesDraw) realOutcome { return tellList(impl.SeriesOfQuotient(v.p, v.q, v.count)) }},
		{"PartsOf", "pr", func(v seriesDraw) realOutcome { return tellList(impl.PartsOf(v.p, v.roots)) }},
		{"PartsAt", "srz", func(v seriesDraw) realOutcome { return tellValue(impl.PartsAt(v.parts, v.roots, v.z)) }},
	}
}

func callsOfRules() []seriesCall {
	return []seriesCall{
		{"RuleOver", "lP", func(v seriesDraw) realOutcome { return tellList(impl.RuleOver(v.list, v.prime)) }},
		{"FollowRule", "RPm", func(v seriesDraw) realOutcome {
			return tellList(impl.FollowRule(v.rule, v.first, v.prime, v.most))
		}},
		{"RunRule", "wm", func(v seriesDraw) realOutcome { return tellList(impl.RunRule(v.weights, v.begin, v.most)) }},
		{"SpeedUp", "a", func(v seriesDraw) realOutcome { return tellList(impl.SpeedUp(v.a)) }},
		{"StoreSaved", "S", func(v seriesDraw) realOutcome {
			if len(v.saved) == 0 {
				return tellValue(impl.StoreSaved(impl.Saved{}))
			}
			return tellValue(impl.StoreSaved(v.saved[0]))
		}},
		{"LoadSaved", "L", func(v seriesDraw) realOutcome { return tellSaved(impl.LoadSaved(v.last)) }},
		{"StoreAll", "S", func(v seriesDraw) realOutcome { return tellValue(impl.StoreAll(v.saved)) }},
		{"RecoverAll", "", func(v seriesDraw) realOutcome { return tellRecovered(impl.RecoverAll(v.text)) }},
		{"IsSeries", "", func(v seriesDraw) realOutcome { return tellValue(impl.IsSeries(v.a), true) }},
		{"SameSaved", "", func(v seriesDraw) realOutcome { return tellValue(impl.SameSaved(v.saved, v.saved), true) }},
		{"ValidSaved", "", func(v seriesDraw) realOutcome {
			return tellValue(len(v.saved) > 0 && impl.ValidSaved(v.saved[0]), true)
		}},
	}
}

func allCallsOfSeries() []seriesCall {
	return append(callsOfSeries(), callsOfRules()...)
}

// wrongSeries returns inputs with one argument that is not valid, by what tells
// it in seriesCall.
func wrongSeries() map[string][]seriesDraw {
	wrong := map[string][]seriesDraw{}
	add := func(what string, change func(v *seriesDraw)) {
		v := goodSeries()
		change(&v)
		wrong[what] = append(wrong[what], v)
	}
	for _, a := range noSeries(1) {
		add("a", func(v *seriesDraw) { v.a, v.b, v.inner = a, make([]complex64, len(a)), make([]complex64, len(a)) })
		add("b", func(v *seriesDraw) { v.b = a })
		add("1", func(v *seriesDraw) { v.one = a })
		add("w", func(v *seriesDraw) { v.weights, v.begin = a, make([]complex64, len(a)) })
		add("w", func(v *seriesDraw) { v.weights, v.begin = make([]complex64, len(a)), a })
	}
	for _, a := range noSeries(0) {
		add("0", func(v *seriesDraw) { v.zero = a })
		add("i", func(v *seriesDraw) { v.inner = a })
	}
	for _, x := range infinities() {
		add("z", func(v *seriesDraw) { v.z = x })
		add("g", func(v *seriesDraw) { v.points = []complex64{1, x} })
		add("s", func(v *seriesDraw) { v.parts = []complex64{1, x, 2} })
		add("r", func(v *seriesDraw) { v.roots = []complex64{1, x, 2} })
	}
	for _, p := range invalidPolys() {
		add("p", func(v *seriesDraw) { v.p = p })
		add("q", func(v *seriesDraw) { v.q = p })
	}
	for _, roots := range noRootLists() {
		add("r", func(v *seriesDraw) { v.roots, v.parts = roots, make([]complex64, len(roots)) })
	}
	for _, n := range append(farNumbers(), -1) {
		add("f", func(v *seriesDraw) { v.above = n })
		add("f", func(v *seriesDraw) { v.below = n })
		add("c", func(v *seriesDraw) { v.count = n })
		add("m", func(v *seriesDraw) { v.most = n })
	}
	for _, workers := range wrongCounts() {
		add("t", func(v *seriesDraw) { v.workers = workers })
	}
	addWrongRules(add)
	return wrong
}

func addWrongRules(add func(what string, change func(v *seriesDraw))) {
	for _, prime := range notPrimes() {
		add("P", func(v *seriesDraw) { v.prime = prime })
	}
	for _, list := range noLists(7) {
		add("l", func(v *seriesDraw) { v.list = list })
		if len(list) > 0 {
			add("R", func(v *seriesDraw) { v.rule, v.first = list, make([]int64, len(list)) })
			add("R", func(v *seriesDraw) { v.rule, v.first = make([]int64, len(list)), list })
		}
	}
	for _, s := range invalidSaved() {
		add("S", func(v *seriesDraw) { v.saved = []impl.Saved{s} })
	}
	for _, text := range append(strangeTexts(), bentTexts(goodSeries().last)...) {
		if text != goodSeries().last {
			add("L", func(v *seriesDraw) { v.last = text })
		}
	}
	add("b", func(v *seriesDraw) { v.b = v.b[:2] })
	add("b", func(v *seriesDraw) { v.b = append(v.b, 0) })
	add("i", func(v *seriesDraw) { v.inner = v.inner[:2] })
	add("i", func(v *seriesDraw) { v.inner = []complex64{complex(least, 0), 1, 1} })
	add("0", func(v *seriesDraw) { v.zero = []complex64{complex(0, least), 1, 1} })
	add("1", func(v *seriesDraw) { v.one = []complex64{complex(afterOne, 0), 1, 1} })
	add("g", func(v *seriesDraw) { v.points = make([]complex64, impl.MaxNumbers+1) })
	add("s", func(v *seriesDraw) { v.parts = v.parts[:2] })
	add("f", func(v *seriesDraw) { v.above = 2 })
	add("f", func(v *seriesDraw) { v.below = 2 })
	add("c", func(v *seriesDraw) { v.count = 0 })
	add("c", func(v *seriesDraw) { v.count = impl.MaxSeries + 1 })
	add("m", func(v *seriesDraw) { v.most = impl.MaxRule + 1 })
	add("R", func(v *seriesDraw) { v.first = v.first[:1] })
	add("w", func(v *seriesDraw) { v.begin = v.begin[:1] })
}

func TestInvalidSeriesFail(t *testing.T) {
	wrong := wrongSeries()
	for _, c := range allCallsOfSeries() {
		if !c.call(goodSeries()).ok {
			t.Errorf("%s fails for %v", c.name, goodSeries())
		}
		for what, inputs := range wrong {
			for _, v := range inputs {
				if o := c.call(v); strings.Contains(c.takes, what) && (o.ok || !o.isZero) {
					t.Errorf("%s of %v: %s, %v, but it must fail", c.name, v, o.value, o.ok)
				}
			}
		}
	}
}

// anySeries have all edges of each argument.
func anySeries() []seriesDraw {
	s := &sweep{}
	odd := specials()
	number := func() float32 { return odd[s.below(len(odd))] }
	ns := []int64{0, 1, 2, 3, 4, 5, 8, 9, 13, 15, 16, 17, 63, 64, 65, -1, math.MinInt64, math.MaxInt64}
	count := func() int64 { return ns[s.below(len(ns))] }
	lengths := []int{0, 1, 2, 3, 5, 15, 16, 17, 64, 65, 300}
	pairs := func() []complex64 { return s.pairs(number, lengths[s.below(len(lengths))]) }
	integers := func() []int64 {
		list := make([]int64, lengths[s.below(len(lengths))])
		for i := range list {
			list[i] = max(0, count()) % 15
		}
		return list
	}
	polys := append(validPolys(), invalidPolys()...)
	saved := append(validSaved(), invalidSaved()...)
	inputs := []seriesDraw{}
	for range 800 {
		v := s.seriesDraw(number)
		v.above, v.below, v.count, v.workers, v.prime, v.most = count(), count(), count(), count(), count(), count()
		v.p, v.q = polys[s.below(len(polys))], polys[s.below(len(polys))]
		inputs = append(inputs, v, s.seriesDraw(number), s.seriesDraw(s.coarse))
		v.a, v.b, v.zero, v.one, v.inner, v.points, v.roots, v.parts, v.weights, v.begin = pairs(), pairs(), pairs(), pairs(), pairs(), pairs(), pairs(), pairs(), pairs(), pairs()
		v.list, v.rule, v.first = integers(), integers(), integers()
		v.saved = []impl.Saved{saved[s.below(len(saved))], saved[s.below(len(saved))]}
		inputs = append(inputs, v)
	}
	return inputs
}

func TestSeriesReturnForAll(t *testing.T) {
	for _, v := range anySeries() {
		before := plain(v)
		for _, c := range allCallsOfSeries() {
			one, two := c.call(v), c.call(v)
			if !one.ok && !one.isZero {
				t.Errorf("%s fails for %v, but returns %s", c.name, v, one.value)
			}
			if one.ok != two.ok || one.value != two.value {
				t.Errorf("%s has different results for %v: %s and %s", c.name, v, one.value, two.value)
			}
		}
		if plain(v) != before {
			t.Fatalf("an argument has been changed: %s, then %v", before, v)
		}
	}
}

// roomySeries returns an input whose lists have capacity behind them.
func roomySeries(v seriesDraw) seriesDraw {
	for _, list := range v.pairLists() {
		*list = longer(*list)
	}
	for _, list := range v.integerLists() {
		*list = slices.Clip(append(slices.Clone(*list), 5, 6, 7))[:len(*list)]
	}
	saved := slices.Clip(append(slices.Clone(v.saved), impl.Saved{Name: "room"}))
	v.saved = saved[:len(v.saved)]
	for i := range v.saved {
		v.saved[i].Poly.Terms = longer(v.saved[i].Poly.Terms)
		v.saved[i].Whole.Terms = slices.Clip(append(slices.Clone(v.saved[i].Whole.Terms), 5))[:len(v.saved[i].Whole.Terms)]
	}
	return v
}

func (v *seriesDraw) pairLists() []*[]complex64 {
	return []*[]complex64{&v.a, &v.b, &v.zero, &v.one, &v.inner, &v.points, &v.p.Terms, &v.q.Terms, &v.roots, &v.parts, &v.weights, &v.begin}
}

func (v *seriesDraw) integerLists() []*[]int64 {
	return []*[]int64{&v.list, &v.rule, &v.first}
}

// withRoom tells all lists with what is behind them.
func (v seriesDraw) withRoom() string {
	texts := []string{}
	for _, list := range v.pairLists() {
		texts = append(texts, plain((*list)[:cap(*list)]))
	}
	for _, list := range v.integerLists() {
		texts = append(texts, plain((*list)[:cap(*list)]))
	}
	for _, s := range v.saved[:cap(v.saved)] {
		texts = append(texts, s.Name, plain(s.Poly.Terms[:cap(s.Poly.Terms)]), plain(s.Whole.Terms[:cap(s.Whole.Terms)]))
	}
	return strings.Join(texts, " ")
}

// keptSeries are inputs with some lengths, for which most functions succeed.
func keptSeries() []seriesDraw {
	one, most := goodSeries(), goodSeries()
	one.points, one.p, one.q, one.count, one.above, one.below, one.most = one.points[:1], polyOf(3), polyOf(2), 1, 0, 0, 1
	one.roots, one.parts, one.list, one.rule, one.first, one.weights, one.begin = one.roots[:1], one.parts[:1], one.list[:1], one.rule[:1], one.first[:1], one.weights[:1], one.begin[:1]
	one.saved = one.saved[:1]
	n := impl.MaxSeries
	most.a, most.b, most.zero, most.one, most.inner = countUp(1, n), filled(n, 1, 0.5), filled(n, 0, 1, 1), filled(n, 1, 2, 1), filled(n, 0, 1, -1)
	most.points, most.p, most.q, most.count, most.above, most.below, most.most = stepsBy(0.01, impl.MaxNumbers), ones(impl.MaxTerms), ones(impl.MaxTerms), impl.MaxSeries, 13, 0, impl.MaxRule
	most.roots, most.parts = stepsBy(complex(0.5, 0.25), impl.MaxRoots), repeated[complex64](2, impl.MaxRoots)
	most.list, most.rule, most.first = repeated[int64](3, impl.MaxRule), repeated[int64](1, impl.MaxRule), repeated[int64](2, impl.MaxRule)
	most.weights, most.begin = repeated[complex64](1, n), countUp(1, n)
	most.saved = repeated(most.saved[0], impl.MaxSaved)
	return []seriesDraw{goodSeries(), one, most}
}

func TestSeriesStayAsTheyAre(t *testing.T) {
	for _, kept := range keptSeries() {
		for _, c := range allCallsOfSeries() {
			v := roomySeries(kept)
			all := v.withRoom()
			first := c.call(v)
			if v.withRoom() != all {
				t.Errorf("%s has changed an argument: %v", c.name, v)
			}
			first.spoil()
			if v.withRoom() != all {
				t.Errorf("a result of %s shares memory with an argument: %v", c.name, v)
			}
			if second := c.call(v); !first.ok || second.ok != first.ok || second.value != first.value {
				t.Errorf("%s keeps something: %s, %v, then %s, %v", c.name, first.value, first.ok, second.value, second.ok)
			}
		}
	}
}

func TestPartsOfResultsShareNoMemory(t *testing.T) {
	p, q, _ := impl.FitQuotient([]complex64{1, 2, 1, 2}, 1, 2)
	before := plain(q)
	spoilList(p.Terms)
	if plain(q) != before {
		t.Errorf("FitQuotient returns polynomials that share memory")
	}
	v := goodSeries()
	list, _, _ := impl.RecoverAll(v.text + v.last)
	before = plain(list[1:])
	spoilSaved(list[0])
	if plain(list[1:]) != before {
		t.Errorf("RecoverAll returns polynomials that share memory")
	}
	spoilList(list[1].Poly.Terms)
	if plain(list[2]) != plain(v.saved[1]) || plain(list[1].Whole) != plain(v.saved[1].Whole) {
		t.Errorf("RecoverAll returns polynomials that share memory")
	}
}

func TestNilAndEmptySeriesAreOneValue(t *testing.T) {
	for _, c := range allCallsOfSeries() {
		none, empty := goodSeries(), goodSeries()
		for _, list := range none.pairLists() {
			*list = nil
		}
		for _, list := range empty.pairLists() {
			*list = []complex64{}
		}
		for _, list := range none.integerLists() {
			*list = nil
		}
		for _, list := range empty.integerLists() {
			*list = []int64{}
		}
		none.saved, empty.saved = nil, []impl.Saved{}
		if one, two := c.call(none), c.call(empty); one.ok != two.ok || one.value != two.value {
			t.Errorf("%s has different results for nil and empty lists: %s and %s", c.name, one.value, two.value)
		}
		none, empty = goodSeries(), goodSeries()
		none.points, none.rule, none.first, none.saved = nil, nil, nil, nil
		empty.points, empty.rule, empty.first, empty.saved = []complex64{}, []int64{}, []int64{}, []impl.Saved{}
		if one, two := c.call(none), c.call(empty); one.ok != two.ok || one.value != two.value {
			t.Errorf("%s has different results for nil and empty lists: %s and %s", c.name, one.value, two.value)
		}
	}
}
