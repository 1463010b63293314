package tests

import (
	"math"
	"slices"
	"strings"
	"testing"

	"loop.example/g01358/impl"
)

func tellTimes(list []complex64, times int64, ok bool) realOutcome {
	return realOutcome{ok, len(list) == 0 && times == 0, plain(list, times), func() { spoilList(list) }}
}
func tellBox(low, high complex64, ok bool) realOutcome {
	return realOutcome{ok, samePair(low, 0) && samePair(high, 0), plain(low, high), func() {}}
}
func tellRest(p impl.Poly, rest complex64, ok bool) realOutcome {
	return realOutcome{ok, len(p.Terms) == 0 && samePair(rest, 0), plain(p, rest), func() { spoilList(p.Terms) }}
}
func tellMatches(list []int64, far float32, ok bool) realOutcome {
	return realOutcome{ok, len(list) == 0 && sameFloat(far, plusZero), plain(list, far), func() { spoilList(list) }}
}

// goodRoots is an input for which all functions succeed.
func goodRoots() rootDraw {
	return rootDraw{
		p: polyOf(2, -3, 1), q: polyOf(6, -5, 1), z: complex(0.5, 0.25), low: complex(-4, -4), high: complex(4, 4.5),
		list: []complex64{1.25, complex(1.75, 0.5)}, others: []complex64{0, complex(3, 1)}, turn: 0.1, near: 0.01, radii: []float32{0.125, 0.25},
		steps: 3, times: 1, most: 60, side: 3, sides: 31, workers: 2,
	}
}

type rootCall struct {
	name string
	// takes tells what must be valid: p and q, the list, the others, z, and the
	// box.
	takes string
	call  func(v rootDraw) realOutcome
}

func callsOfRoots() []rootCall {
	return []rootCall{
		{"AreRoots", "", func(v rootDraw) realOutcome { return tellValue(impl.AreRoots(v.list), true) }},
		{"SlopeOnce", "pz", func(v rootDraw) realOutcome { return tellValue(impl.SlopeOnce(v.p, v.z)) }},
		{"HalleyOnce", "pz", func(v rootDraw) realOutcome { return tellValue(impl.HalleyOnce(v.p, v.z)) }},
		{"LaguerreOnce", "pz", func(v rootDraw) realOutcome { return tellValue(impl.LaguerreOnce(v.p, v.z)) }},
		{"PolishRoot", "pz", func(v rootDraw) realOutcome { return tellValue(impl.PolishRoot(v.p, v.z, v.times)) }},
		{"MissAt", "pz", func(v rootDraw) realOutcome { return tellValue(impl.MissAt(v.p, v.z)) }},
		{"MissOfRoots", "pl", func(v rootDraw) realOutcome { return tellValue(impl.MissOfRoots(v.p, v.list)) }},
		{"StartRing", "p", func(v rootDraw) realOutcome { return tellList(impl.StartRing(v.p, v.turn)) }},
		{"AllOnce", "pl", func(v rootDraw) realOutcome { return tellList(impl.AllOnce(v.p, v.list)) }},
		{"AberthOnce", "pl", func(v rootDraw) realOutcome { return tellList(impl.AberthOnce(v.p, v.list)) }},
		{"AllRoots", "p", func(v rootDraw) realOutcome { return tellTimes(impl.AllRoots(v.p, v.turn, v.near, v.most)) }},
		{"DiscsOf", "pl", func(v rootDraw) realOutcome { return tellList(impl.DiscsOf(v.p, v.list)) }},
		{"DiscsApart", "", func(v rootDraw) realOutcome { return tellValue(impl.DiscsApart(v.list, v.radii), true) }},
		{"TurnsOfBox", "pb", func(v rootDraw) realOutcome { return tellValue(impl.TurnsOfBox(v.p, v.low, v.high, v.sides)) }},
		{"RootsOfBox", "pb", func(v rootDraw) realOutcome { return tellValue(impl.RootsOfBox(v.p, v.low, v.high, v.sides)) }},
		{"FourBoxes", "pb", func(v rootDraw) realOutcome { return tellList(impl.FourBoxes(v.p, v.low, v.high, v.sides)) }},
		{"NarrowBox", "pb", func(v rootDraw) realOutcome { return tellBox(impl.NarrowBox(v.p, v.low, v.high, v.sides, v.times)) }},
	}
}

func otherCallsOfRoots() []rootCall {
	return []rootCall{
		{"SquaredRoots", "p", func(v rootDraw) realOutcome { return tellPoly(impl.SquaredRoots(v.p)) }},
		{"RadiiOfRoots", "p", func(v rootDraw) realOutcome { return tellList(impl.RadiiOfRoots(v.p, v.times)) }},
		{"LeaveRoot", "pz", func(v rootDraw) realOutcome { return tellRest(impl.LeaveRoot(v.p, v.z)) }},
		{"RootsOneByOne", "p", func(v rootDraw) realOutcome { return tellList(impl.RootsOneByOne(v.p, v.most)) }},
		{"OrderRoots", "l", func(v rootDraw) realOutcome { return tellList(impl.OrderRoots(v.list)) }},
		{"MatchRoots", "lo", func(v rootDraw) realOutcome { return tellMatches(impl.MatchRoots(v.list, v.others)) }},
		{"ClustersOfRoots", "l", func(v rootDraw) realOutcome { return tellList(impl.ClustersOfRoots(v.list, v.near)) }},
		{"FollowRoots", "pql", func(v rootDraw) realOutcome {
			return tellList(impl.FollowRoots(v.p, v.q, v.list, v.steps, v.times))
		}},
		{"BasinOf", "plz", func(v rootDraw) realOutcome { return tellValue(impl.BasinOf(v.p, v.list, v.z, v.times)) }},
		{"BasinGrid", "plb", func(v rootDraw) realOutcome {
			return tellList(impl.BasinGrid(v.p, v.list, v.low, v.high, v.side, v.times, v.workers))
		}},
	}
}

func allCallsOfRoots() []rootCall {
	return append(callsOfRoots(), otherCallsOfRoots()...)
}

// wrongRoots returns inputs with one argument that is not valid, by what tells
// it in rootCall.
func wrongRoots() map[string][]rootDraw {
	wrong := map[string][]rootDraw{}
	add := func(what string, change func(v *rootDraw)) {
		v := goodRoots()
		change(&v)
		wrong[what] = append(wrong[what], v)
	}
	for _, p := range noRootPolys() {
		add("p", func(v *rootDraw) { v.p = p })
		add("q", func(v *rootDraw) { v.q = p })
	}
	for _, list := range noRootLists() {
		add("l", func(v *rootDraw) { v.list = list })
		add("o", func(v *rootDraw) { v.others = list })
	}
	for _, x := range infinities() {
		add("z", func(v *rootDraw) { v.z = x })
	}
	for _, b := range noBoxes() {
		add("b", func(v *rootDraw) { v.low, v.high = b.low, b.high })
	}
	return wrong
}

func TestInvalidRootsFail(t *testing.T) {
	wrong := wrongRoots()
	for _, c := range allCallsOfRoots() {
		if !c.call(goodRoots()).ok {
			t.Errorf("%s fails for %v", c.name, goodRoots())
		}
		for what, inputs := range wrong {
			for _, v := range inputs {
				if o := c.call(v); strings.Contains(c.takes, what) && (o.ok || !o.isZero) {
					t.Errorf("%s of %v: %s, %v, but it must fail", c.name, v, o.value, o.ok)
				}
			}
		}
	}
}

// anyRoots have all edges of each argument.
func anyRoots() []rootDraw {
	s := &sweep{}
	polys := slices.Concat(validPolys(), noRootPolys(), []impl.Poly{two(), polyOf(-1, 1), withRoots(1, 1, 2), tooFar(), wideSteps()})
	lists := append(noRootLists(), []complex64{1}, []complex64{1, 1}, []complex64{0, minusBoth}, wideList(), stepsBy(complex(0.5, -1), 16), repeated(minusBoth, 16), stepsBy(1, 3))
	numbers := append(mixedPairs(40, 7), 0, 1, 2, complex(0, 1), minusBoth, complex(-4, -4), complex(4, 4.5))
	counts := []int64{0, 1, 2, 3, 4, 6, 7, 8, 9, 20, 21, 24, 25, 63, 64, 65, -1, math.MinInt64, math.MaxInt64}
	nears := specials()
	count := func() int64 { return counts[s.below(len(counts))] }
	pair := func() complex64 { return numbers[s.below(len(numbers))] }
	near := func() float32 { return nears[s.below(len(nears))] }
	inputs := []rootDraw{}
	for _, p := range polys {
		for range 12 {
			v := rootDraw{
				p: p, q: polys[s.below(len(polys))], z: pair(), low: pair(), high: pair(), list: lists[s.below(len(lists))], others: lists[s.below(len(lists))],
				turn: near(), near: near(), steps: count(), times: count(), most: count(), side: count(), sides: count(), workers: count(),
			}
			for range v.list {
				v.radii = append(v.radii, near())
			}
			inputs = append(inputs, v)
			// Others are as they must be, but for one or two.
			w := goodRoots()
			w.p, w.z, w.times, w.list = p, v.z, v.times, v.list
			inputs = append(inputs, w)
			w = goodRoots()
			w.list, w.others, w.near, w.turn, w.most, w.sides = v.list, v.others, v.near, v.turn, v.most, v.sides
			inputs = append(inputs, w)
		}
	}
	return inputs
}

func TestRootsReturnForAll(t *testing.T) {
	for _, v := range anyRoots() {
		before := plain(v)
		for _, c := range allCallsOfRoots() {
			one, two := c.call(v), c.call(v)
			if !one.ok && !one.isZero {
				t.Errorf("%s fails for %v, but returns %s", c.name, v, one.value)
			}
			if one.ok != two.ok || one.value != two.value {
				t.Errorf("%s has different results for %v: %s and %s", c.name, v, one.value, two.value)
			}
		}
		if plain(v) != before {
			t.Fatalf("an argument has been changed: %s, then %v", before, v)
		}
	}
}

// roomyRoots returns an input whose lists have capacity behind them, and the
// lists with what is behind them.
func roomyRoots(v rootDraw) (rootDraw, [][]complex64) {
	all := [][]complex64{}
	with := func(list []complex64) []complex64 {
		all = append(all, slices.Clip(append(slices.Clone(list), complex(5, -5), 6, 7, 8)))
		return spare(all[len(all)-1], len(list))
	}
	v.p, v.q, v.list, v.others = polyOf(with(v.p.Terms)...), polyOf(with(v.q.Terms)...), with(v.list), with(v.others)
	v.radii = append(slices.Clone(v.radii), 1, 2, 3)[:len(v.radii)]
	return v, all
}

func (v rootDraw) stayed(all [][]complex64) bool {
	for i, list := range [][]complex64{v.p.Terms, v.q.Terms, v.list, v.others} {
		if !unchanged(list, all[i]) {
			return false
		}
	}
	return plain(v.radii[:len(v.radii)+3]) == plain(append(slices.Clone(goodRoots().radii[:len(v.radii)]), 1, 2, 3))
}

// keptRoots are inputs with some lengths, for which most functions succeed.
func keptRoots() []rootDraw {
	one, many := goodRoots(), goodRoots()
	one.p, one.q, one.list, one.others, one.radii = polyOf(-1, 1), polyOf(-2, 1), one.list[:1], one.others[:1], one.radii[:1]
	many.p, many.q, many.list, many.others, many.radii = ones(17), ones(17), stepsBy(complex(0.25, 0.5), 16), stepsBy(complex(-0.25, 1), 16), nil
	return []rootDraw{goodRoots(), one, many}
}

func TestRootsStayAsTheyAre(t *testing.T) {
	for _, kept := range keptRoots() {
		for _, c := range allCallsOfRoots() {
			v, all := roomyRoots(kept)
			first := c.call(v)
			if !v.stayed(all) {
				t.Errorf("%s has changed an argument: %v", c.name, v)
			}
			first.spoil()
			if !v.stayed(all) {
				t.Errorf("a result of %s shares memory with an argument: %v", c.name, v)
			}
			if second := c.call(v); second.ok != first.ok || second.value != first.value {
				t.Errorf("%s keeps something: %s, then %s", c.name, first.value, second.value)
			}
		}
	}
}

func TestNilAndEmptyRootsAreOneValue(t *testing.T) {
	for _, c := range allCallsOfRoots() {
		none, empty := goodRoots(), goodRoots()
		none.p.Terms, none.list, none.others, none.radii = nil, nil, nil, nil
		empty.p.Terms, empty.list, empty.others, empty.radii = []complex64{}, []complex64{}, []complex64{}, []float32{}
		if one, two := c.call(none), c.call(empty); one.ok != two.ok || one.value != two.value {
			t.Errorf("%s has different results for nil and empty lists: %s and %s", c.name, one.value, two.value)
		}
		none, empty = goodRoots(), goodRoots()
		none.list, none.radii, none.q.Terms = nil, nil, nil
		empty.list, empty.radii, empty.q.Terms = []complex64{}, []float32{}, []complex64{}
		if one, two := c.call(none), c.call(empty); one.ok != two.ok || one.value != two.value {
			t.Errorf("%s has different results for nil and empty lists: %s and %s", c.name, one.value, two.value)
		}
	}
}
