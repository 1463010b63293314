package tests

import (
	"math"
	"slices"
	"strings"
	"testing"

	"loop.example/g01358/impl"
)

func tellRule(a, b, c float32, ok bool) realOutcome {
	return realOutcome{ok, sameFloat(a, plusZero) && sameFloat(b, plusZero) && sameFloat(c, plusZero), plain(a, b, c), func() {}}
}
func tellNodes(nodes, masses []float32, ok bool) realOutcome {
	return realOutcome{ok, len(nodes) == 0 && len(masses) == 0, plain(nodes, masses), func() {
		spoilList(nodes)
		spoilList(masses)
	}}
}

// goodValues is an input for which all functions succeed.
func goodValues() valueDraw {
	return valueDraw{
		points: []complex64{0, 1, complex(0.5, 2)}, values: []complex64{complex(1, 1), 2, -0.75}, z: complex(0.25, -1), p: polyOf(2, -3, 1), kind: 2, n: 3, x: 0.75,
		weights: []float32{1, -2, 0.5}, members: []complex64{complex(1, 1), 2, -0.5}, count: 4, nodes: 3,
		xs: []float32{0, 1, 2.5}, ys: []float32{2, 3, 7}, shares: []float32{1, 0.5, 2}, degree: 1, workers: 2,
	}
}

type valueCall struct {
	name string
	// takes tells what must be valid: points, their values, z, p, kind, n, x,
	// weights, members, a count of round points, one of nodes, xs and all others
	// of them, a degree, and workers.
	takes string
	call  func(v valueDraw) realOutcome
}

func callsOfValues() []valueCall {
	return []valueCall{
		{"ArePoints", "", func(v valueDraw) realOutcome { return tellValue(impl.ArePoints(v.points), true) }},
		{"DividedOf", "#v", func(v valueDraw) realOutcome { return tellList(impl.DividedOf(v.points, v.values)) }},
		{"NewtonAt", "#vz", func(v valueDraw) realOutcome { return tellValue(impl.NewtonAt(v.points, v.values, v.z)) }},
		{"NewtonPoly", "#v", func(v valueDraw) realOutcome { return tellPoly(impl.NewtonPoly(v.points, v.values)) }},
		{"PassingPoly", "#v", func(v valueDraw) realOutcome { return tellPoly(impl.PassingPoly(v.points, v.values)) }},
		{"NevilleAt", "#vz", func(v valueDraw) realOutcome { return tellValue(impl.NevilleAt(v.points, v.values, v.z)) }},
		{"PointWeights", "#", func(v valueDraw) realOutcome { return tellList(impl.PointWeights(v.points)) }},
		{"LagrangeAt", "#vz", func(v valueDraw) realOutcome { return tellValue(impl.LagrangeAt(v.points, v.values, v.z)) }},
		{"MissOf", "#vp", func(v valueDraw) realOutcome { return tellValue(impl.MissOf(v.p, v.points, v.values)) }},
	}
}

func callsOfFamilies() []valueCall {
	return []valueCall{
		{"RuleOf", "kn", func(v valueDraw) realOutcome { return tellRule(impl.RuleOf(v.kind, v.n)) }},
		{"FamilyAt", "knx", func(v valueDraw) realOutcome { return tellValue(impl.FamilyAt(v.kind, v.n, v.x)) }},
		{"FamilyRow", "knx", func(v valueDraw) realOutcome { return tellList(impl.FamilyRow(v.kind, v.n, v.x)) }},
		{"FamilyPoly", "kn", func(v valueDraw) realOutcome { return tellPoly(impl.FamilyPoly(v.kind, v.n)) }},
		{"FamilySum", "kwx", func(v valueDraw) realOutcome { return tellValue(impl.FamilySum(v.kind, v.weights, v.x)) }},
		{"FamilyOf", "kp", func(v valueDraw) realOutcome { return tellList(impl.FamilyOf(v.kind, v.p)) }},
		{"PolyOfFamily", "km", func(v valueDraw) realOutcome { return tellPoly(impl.PolyOfFamily(v.kind, v.members)) }},
		{"RoundPoints", "c", func(v valueDraw) realOutcome { return tellList(impl.RoundPoints(v.count)) }},
		{"RoundFit", "w", func(v valueDraw) realOutcome { return tellList(impl.RoundFit(v.weights)) }},
		{"EvenNodes", "e", func(v valueDraw) realOutcome { return tellNodes(impl.EvenNodes(v.nodes)) }},
		{"MassOf", "pe", func(v valueDraw) realOutcome { return tellValue(impl.MassOf(v.p, v.nodes)) }},
		{"ExactMass", "p", func(v valueDraw) realOutcome { return tellValue(impl.ExactMass(v.p)) }},
		{"FitPoly", "sod", func(v valueDraw) realOutcome { return tellPoly(impl.FitPoly(v.xs, v.ys, v.shares, v.degree)) }},
		{"ValuesShared", "knst", func(v valueDraw) realOutcome { return tellList(impl.ValuesShared(v.kind, v.n, v.xs, v.workers)) }},
	}
}

func allCallsOfValues() []valueCall {
	return append(callsOfValues(), callsOfFamilies()...)
}

// wrongValues returns inputs with one argument that is not valid, by what tells
// it in valueCall.
func wrongValues() map[string][]valueDraw {
	wrong := map[string][]valueDraw{}
	add := func(what string, change func(v *valueDraw)) {
		v := goodValues()
		change(&v)
		wrong[what] = append(wrong[what], v)
	}
	for _, points := range noPointLists() {
		add("#", func(v *valueDraw) { v.points, v.values = points, make([]complex64, len(points)) })
	}
	for _, values := range noValueLists(3) {
		add("v", func(v *valueDraw) { v.values = values })
	}
	for _, p := range invalidPolys() {
		add("p", func(v *valueDraw) { v.p = p })
	}
	for _, kind := range noKinds() {
		add("k", func(v *valueDraw) { v.kind = kind })
	}
	for _, n := range noMembers() {
		add("n", func(v *valueDraw) { v.n = n })
		add("c", func(v *valueDraw) { v.count = []int64{0, n + 1}[min(max(n, 0), 1)] })
		add("e", func(v *valueDraw) { v.nodes = n })
		add("d", func(v *valueDraw) { v.degree = n })
	}
	for _, x := range infinities() {
		add("z", func(v *valueDraw) { v.z = x })
		add("m", func(v *valueDraw) { v.members = []complex64{1, x} })
		add("m", func(v *valueDraw) { v.members = []complex64{x} })
	}
	for _, x := range notFinite() {
		add("x", func(v *valueDraw) { v.x = x })
		add("w", func(v *valueDraw) { v.weights = []float32{1, x} })
		add("s", func(v *valueDraw) { v.xs = []float32{1, x, 1} })
		add("o", func(v *valueDraw) { v.ys = []float32{1, x, 1} })
		add("o", func(v *valueDraw) { v.shares = []float32{1, x, 1} })
	}
	for _, n := range []int{0, impl.MaxTerms + 1, 300} {
		add("w", func(v *valueDraw) { v.weights = make([]float32, n) })
		add("m", func(v *valueDraw) { v.members = make([]complex64, n) })
		add("s", func(v *valueDraw) { v.xs = make([]float32, [2]int{0, 300}[min(n, 1)]) })
		add("o", func(v *valueDraw) { v.ys = make([]float32, n) })
		add("o", func(v *valueDraw) { v.shares = make([]float32, n) })
	}
	add("o", func(v *valueDraw) { v.shares = []float32{1, 2, minusLeast} })
	add("o", func(v *valueDraw) { v.ys = v.ys[:2] })
	add("o", func(v *valueDraw) { v.shares = v.shares[:2] })
	add("e", func(v *valueDraw) { v.nodes = 0 })
	add("e", func(v *valueDraw) { v.nodes = impl.MaxNodes + 1 })
	add("d", func(v *valueDraw) { v.degree = impl.MaxFit + 1 })
	for _, workers := range wrongCounts() {
		add("t", func(v *valueDraw) { v.workers = workers })
	}
	return wrong
}

func TestInvalidValuesFail(t *testing.T) {
	wrong := wrongValues()
	for _, c := range allCallsOfValues() {
		if !c.call(goodValues()).ok {
			t.Errorf("%s fails for %v", c.name, goodValues())
		}
		for what, inputs := range wrong {
			for _, v := range inputs {
				if o := c.call(v); strings.Contains(c.takes, what) && (o.ok || !o.isZero) {
					t.Errorf("%s of %v: %s, %v, but it must fail", c.name, v, o.value, o.ok)
				}
			}
		}
	}
}

// anyValues have all edges of each argument.
func anyValues() []valueDraw {
	s := &sweep{}
	points := append(noPointLists(), noWeightLists()...)
	for _, c := range tooSteep() {
		points = append(points, c.points)
	}
	points = append(points, []complex64{0}, []complex64{minusBoth}, []complex64{1, complex(afterOne, 0)}, stepsBy(complex(0.5, -1), impl.MaxTerms), stepsBy(1, 4))
	polys := append(validPolys(), invalidPolys()...)
	odd := specials()
	ns := []int64{0, 1, 2, 3, 4, 5, 7, 8, 9, 15, 16, 17, 18, -1, math.MinInt64, math.MaxInt64}
	count := func() int64 { return ns[s.below(len(ns))] }
	number := func() float32 { return odd[s.below(len(odd))] }
	lengths := []int{0, 1, 2, 3, 5, 16, 17, 18, 300}
	length := func() int { return lengths[s.below(len(lengths))] }
	inputs := []valueDraw{}
	for i := range 700 {
		v := valueDraw{
			points: points[i%len(points)], z: pairOf(number), p: polys[s.below(len(polys))], kind: count(), n: count(), x: number(),
			weights: s.numbers(number, length()), members: s.pairs(number, length()), count: count(), nodes: count(),
			xs: s.numbers(number, length()), ys: s.numbers(number, length()), shares: s.numbers(number, length()), degree: count(), workers: count(),
		}
		v.values = s.pairs(number, max(0, len(v.points)-s.below(5)/4))
		inputs = append(inputs, v)
		// Others are as they must be, but for one or two.
		w := goodValues()
		w.points, w.values, w.p, w.nodes, w.kind = v.points, stepsBy(1, len(v.points)), v.p, 1+v.nodes&7, v.kind
		inputs = append(inputs, w)
		w = goodValues()
		w.z, w.x, w.n, w.xs, w.kind, w.workers = v.z, v.x, v.n, v.xs, int64(i%5), v.workers
		w.ys, w.shares = s.numbers(number, len(w.xs)), make([]float32, len(w.xs))
		for k := range w.shares {
			w.shares[k] = float32(math.Abs(float64(number())))
		}
		inputs = append(inputs, w)
	}
	return inputs
}

func TestValuesReturnForAll(t *testing.T) {
	for _, v := range anyValues() {
		before := plain(v)
		for _, c := range allCallsOfValues() {
			one, two := c.call(v), c.call(v)
			if !one.ok && !one.isZero {
				t.Errorf("%s fails for %v, but returns %s", c.name, v, one.value)
			}
			if one.ok != two.ok || one.value != two.value {
				t.Errorf("%s has different results for %v: %s and %s", c.name, v, one.value, two.value)
			}
		}
		if plain(v) != before {
			t.Fatalf("an argument has been changed: %s, then %v", before, v)
		}
	}
}

// roomyValues returns an input whose lists have capacity behind them, and what
// they are with it.
func roomyValues(v valueDraw) (valueDraw, string) {
	v.points, v.values, v.p.Terms, v.members = longer(v.points), longer(v.values), longer(v.p.Terms), longer(v.members)
	v.weights, v.xs, v.ys, v.shares = longer(v.weights), longer(v.xs), longer(v.ys), longer(v.shares)
	return v, v.withRoom()
}

// longer returns a copy with three items behind its length.
func longer[T float32 | complex64](list []T) []T {
	return slices.Clip(append(slices.Clone(list), 5, 6, 7))[:len(list)]
}

func (v valueDraw) withRoom() string {
	pairs := [][]complex64{}
	for _, list := range [][]complex64{v.points, v.values, v.p.Terms, v.members} {
		pairs = append(pairs, list[:cap(list)])
	}
	numbers := [][]float32{}
	for _, list := range [][]float32{v.weights, v.xs, v.ys, v.shares} {
		numbers = append(numbers, list[:cap(list)])
	}
	return plain(pairs, numbers)
}

// keptValues are inputs with some lengths, for which most functions succeed.
func keptValues() []valueDraw {
	one, many := goodValues(), goodValues()
	one.points, one.values, one.p, one.n, one.nodes, one.count, one.degree = one.points[:1], one.values[:1], polyOf(3), 0, 1, 1, 0
	one.weights, one.members, one.xs, one.ys, one.shares = one.weights[:1], one.members[:1], one.xs[:1], one.ys[:1], one.shares[:1]
	many.points, many.values, many.p = stepsBy(complex(0.25, 0.5), 17), stepsBy(complex(-1, 0.5), 17), ones(16)
	many.weights, many.members = repeated[float32](2, 17), stepsBy(2, 17)
	many.xs, many.ys, many.shares = realParts(stepsBy(0.25, 17)), realParts(stepsBy(-1, 17)), repeated[float32](0.5, 17)
	many.n, many.nodes, many.count, many.degree = 16, 8, 17, 4
	return []valueDraw{goodValues(), one, many}
}

func TestValuesStayAsTheyAre(t *testing.T) {
	for _, kept := range keptValues() {
		for _, c := range allCallsOfValues() {
			v, all := roomyValues(kept)
			first := c.call(v)
			if v.withRoom() != all {
				t.Errorf("%s has changed an argument: %v", c.name, v)
			}
			first.spoil()
			if v.withRoom() != all {
				t.Errorf("a result of %s shares memory with an argument: %v", c.name, v)
			}
			if second := c.call(v); !first.ok || second.ok != first.ok || second.value != first.value {
				t.Errorf("%s keeps something: %s, %v, then %s, %v", c.name, first.value, first.ok, second.value, second.ok)
			}
		}
	}
}

func TestNodesShareNoMemory(t *testing.T) {
	nodes, masses, _ := impl.EvenNodes(3)
	before := plain(masses)
	spoilList(nodes)
	if plain(masses) != before {
		t.Errorf("EvenNodes returns lists that share memory")
	}
}

func TestNilAndEmptyValuesAreOneValue(t *testing.T) {
	for _, c := range allCallsOfValues() {
		none, empty := goodValues(), goodValues()
		none.points, none.values, none.p.Terms, none.members, none.weights, none.xs, none.ys, none.shares = nil, nil, nil, nil, nil, nil, nil, nil
		empty.points, empty.values, empty.p.Terms, empty.members = []complex64{}, []complex64{}, []complex64{}, []complex64{}
		empty.weights, empty.xs, empty.ys, empty.shares = []float32{}, []float32{}, []float32{}, []float32{}
		if one, two := c.call(none), c.call(empty); one.ok != two.ok || one.value != two.value {
			t.Errorf("%s has different results for nil and empty lists: %s and %s", c.name, one.value, two.value)
		}
		none, empty = goodValues(), goodValues()
		none.values, none.ys = nil, nil
		empty.values, empty.ys = []complex64{}, []float32{}
		if one, two := c.call(none), c.call(empty); one.ok != two.ok || one.value != two.value {
			t.Errorf("%s has different results for nil and empty lists: %s and %s", c.name, one.value, two.value)
		}
	}
}
