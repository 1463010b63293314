package tests

import (
	"testing"

	"loop.example/g01358/impl"
)

// outcome is what a function has returned: polynomials, lists and numbers.
type outcome struct {
	ok    bool
	lists [][]complex64
	value any
}

func ofPoly(p impl.Poly, ok bool) outcome      { return outcome{ok, [][]complex64{p.Terms}, nil} }
func ofList(list []complex64, ok bool) outcome { return outcome{ok, [][]complex64{list}, nil} }
func ofFloat(x float32, ok bool) outcome       { return outcome{ok, nil, x} }
func ofDivision(q, r impl.Poly, ok bool) outcome {
	return outcome{ok, [][]complex64{q.Terms, r.Terms}, nil}
}

// isZero reports whether all results but the success are zero values.
func (o outcome) isZero() bool {
	for _, list := range o.lists {
		if len(list) > 0 {
			return false
		}
	}
	switch x := o.value.(type) {
	case float32:
		return sameFloat(x, plusZero)
	case complex64:
		return samePair(x, complex(plusZero, plusZero))
	case int64:
		return x == 0
	}
	return true
}

func (o outcome) text() string {
	return plain(o.ok, o.lists, o.value)
}

// polyInput is what a function of polynomials may take.
type polyInput struct {
	p, q    impl.Poly
	z, w    complex64
	near    float32
	list    []complex64
	workers int64
}

type polyCall struct {
	name string
	call func(v polyInput) outcome
}

// callsOfOne take one polynomial.
func callsOfOne() []polyCall {
	return []polyCall{
		{"DegreeOf", func(v polyInput) outcome {
			degree, ok := impl.DegreeOf(v.p)
			return outcome{ok, nil, degree}
		}},
		{"ScalePoly", func(v polyInput) outcome { return ofPoly(impl.ScalePoly(v.p, v.z)) }},
		{"StretchPoly", func(v polyInput) outcome { return ofPoly(impl.StretchPoly(v.p, v.z)) }},
		{"ShiftPoly", func(v polyInput) outcome { return ofPoly(impl.ShiftPoly(v.p, v.z)) }},
		{"BackPoly", func(v polyInput) outcome { return ofPoly(impl.BackPoly(v.p)) }},
		{"EvenPoly", func(v polyInput) outcome { return ofPoly(impl.EvenPoly(v.p)) }},
		{"OddPoly", func(v polyInput) outcome { return ofPoly(impl.OddPoly(v.p)) }},
		{"JoinedPoly", func(v polyInput) outcome { return ofPoly(impl.JoinedPoly(v.p)) }},
		{"SlopePoly", func(v polyInput) outcome { return ofPoly(impl.SlopePoly(v.p)) }},
		{"RisePoly", func(v polyInput) outcome { return ofPoly(impl.RisePoly(v.p)) }},
		{"MonicPoly", func(v polyInput) outcome { return ofPoly(impl.MonicPoly(v.p)) }},
		{"PolyAt", func(v polyInput) outcome {
			value, ok := impl.PolyAt(v.p, v.z)
			return outcome{ok, nil, value}
		}},
		{"BoundAt", func(v polyInput) outcome { return ofFloat(impl.BoundAt(v.p, v.z)) }},
		{"SlopesAt", func(v polyInput) outcome { return ofList(impl.SlopesAt(v.p, v.z)) }},
		{"PolyPoints", func(v polyInput) outcome { return ofList(impl.PolyPoints(v.p, v.list)) }},
		{"PointsShared", func(v polyInput) outcome { return ofList(impl.PointsShared(v.p, v.list, v.workers)) }},
		{"LongOfPoly", func(v polyInput) outcome { return ofFloat(impl.LongOfPoly(v.p)) }},
		{"RootsWithin", func(v polyInput) outcome { return ofFloat(impl.RootsWithin(v.p)) }},
		{"RootsBeyond", func(v polyInput) outcome { return ofFloat(impl.RootsBeyond(v.p)) }},
		{"ThinPoly", func(v polyInput) outcome { return ofPoly(impl.ThinPoly(v.p, v.near)) }},
	}
}

// callsOfTwo take two polynomials.
func callsOfTwo() []polyCall {
	return []polyCall{
		{"AddPolys", func(v polyInput) outcome { return ofPoly(impl.AddPolys(v.p, v.q)) }},
		{"WeighPolys", func(v polyInput) outcome { return ofPoly(impl.WeighPolys(v.p, v.q, v.z, v.w)) }},
		{"MulPolys", func(v polyInput) outcome { return ofPoly(impl.MulPolys(v.p, v.q)) }},
		{"MulHalves", func(v polyInput) outcome { return ofPoly(impl.MulHalves(v.p, v.q)) }},
		{"DivPolys", func(v polyInput) outcome { return ofDivision(impl.DivPolys(v.p, v.q)) }},
		{"ComposePolys", func(v polyInput) outcome { return ofPoly(impl.ComposePolys(v.p, v.q)) }},
	}
}

// otherCalls never fail for a polynomial, or take none.
func otherCalls() []polyCall {
	return []polyCall{
		{"ValidPoly", func(v polyInput) outcome { return outcome{true, nil, impl.ValidPoly(v.p)} }},
		{"SamePoly", func(v polyInput) outcome { return outcome{true, nil, impl.SamePoly(v.p, v.q)} }},
		{"PolyOf", func(v polyInput) outcome { return ofPoly(impl.PolyOf(v.list)) }},
		{"PolyOfRoots", func(v polyInput) outcome { return ofPoly(impl.PolyOfRoots(v.list)) }},
	}
}

func allPolyCalls() []polyCall {
	return append(append(callsOfOne(), callsOfTwo()...), otherCalls()...)
}

// TestInvalidPolysFail has arguments for which the functions succeed if the
// polynomials are valid.
func TestInvalidPolysFail(t *testing.T) {
	good := polyInput{polyOf(2, 1), polyOf(2, 1), 1, 1, 1, nil, 1}
	for _, c := range append(callsOfOne(), callsOfTwo()...) {
		if !c.call(good).ok {
			t.Errorf("%s fails for %v", c.name, good)
		}
		for _, p := range invalidPolys() {
			first := good
			first.p = p
			if o := c.call(first); o.ok || !o.isZero() {
				t.Errorf("%s of %v: %s", c.name, p, o.text())
			}
		}
	}
	for _, c := range callsOfTwo() {
		for _, q := range invalidPolys() {
			second := good
			second.q = q
			if o := c.call(second); o.ok || !o.isZero() {
				t.Errorf("%s with %v: %s", c.name, q, o.text())
			}
		}
	}
}

// anyInputs have all edges of each argument.
func anyInputs() []polyInput {
	polys := append(validPolys(), invalidPolys()...)
	numbers := append(mixedPairs(20, 7), 0, 1, complex(0, 2), complex(-1, 0.5), complex(minusZero, minusZero))
	counts := []int64{-1, 0, 1, 2, impl.MaxWorkers, impl.MaxWorkers + 1}
	lengths := []int{0, 1, 2, 16, 17, 18, impl.MaxNumbers, impl.MaxNumbers + 1}
	nears := specials()
	inputs := []polyInput{}
	for i, p := range polys {
		for j, q := range polys {
			n := i*len(polys) + j
			list := repeated(numbers[n%len(numbers)], lengths[n%len(lengths)])
			inputs = append(inputs, polyInput{
				p, q, numbers[(n+j)%len(numbers)], numbers[(n+i)%len(numbers)], nears[n%len(nears)], list, counts[n%len(counts)],
			})
		}
	}
	return inputs
}

func TestPolysReturnForAll(t *testing.T) {
	for _, v := range anyInputs() {
		before := plain(v)
		for _, c := range allPolyCalls() {
			one, two := c.call(v), c.call(v)
			if one.text() != two.text() {
				t.Errorf("%s has different results for %v: %s and %s", c.name, v, one.text(), two.text())
			}
			if !one.ok && !one.isZero() {
				t.Errorf("%s fails for %v, but returns %s", c.name, v, one.text())
			}
		}
		if plain(v) != before {
			t.Fatalf("an argument has been changed: %s, then %v", before, v)
		}
	}
}

// roomy returns an input whose lists have capacity behind them.
func roomy(n int) (polyInput, [3][]complex64) {
	s := &sweep{}
	all := [3][]complex64{s.pairs(s.small, 40), s.pairs(s.small, 40), s.pairs(s.small, 40)}
	p, q := polyOf(spare(all[0], n)...), polyOf(spare(all[1], 2)...)
	return polyInput{p, q, complex(0.5, -1), complex(1, 0.25), 1, spare(all[2], n), 3}, all
}

func TestPolysStayAsTheyAre(t *testing.T) {
	for _, n := range []int{1, 2, 3, 8, 16, 17, 18} {
		for _, c := range allPolyCalls() {
			v, all := roomy(n)
			first := c.call(v)
			if !unchanged(v.p.Terms, all[0]) || !unchanged(v.q.Terms, all[1]) || !unchanged(v.list, all[2]) {
				t.Errorf("%s has changed an argument with %d terms", c.name, n)
			}
			told := first.text()
			for _, list := range first.lists {
				spoil(list)
			}
			if !unchanged(v.p.Terms, all[0]) || !unchanged(v.q.Terms, all[1]) || !unchanged(v.list, all[2]) {
				t.Errorf("a result of %s shares memory with an argument with %d terms", c.name, n)
			}
			if second := c.call(v); second.text() != told {
				t.Errorf("%s keeps something: %s, then %s", c.name, told, second.text())
			}
		}
	}
}

// spoil writes to a list, and to the capacity behind it.
func spoil(list []complex64) {
	for i := range list[:cap(list)] {
		list[:cap(list)][i] = complex(-77, 77)
	}
}

func TestResultsOfDivisionAreApart(t *testing.T) {
	for _, c := range []struct{ a, b impl.Poly }{
		{polyOf(1, 2, 3, 4), polyOf(1, 0, 2)}, {polyOf(1), polyOf(1, 1)}, {polyOf(4, 2), polyOf(2)}, {ones(17), ones(9)}, {polyOf(0), polyOf(1)},
	} {
		quotient, rest, _ := impl.DivPolys(c.a, c.b)
		told := plain(rest)
		spoil(quotient.Terms)
		if plain(rest) != told {
			t.Errorf("the rest of %v by %v was %s, and is %v", c.a, c.b, told, rest)
		}
		told = plain(quotient)
		spoil(rest.Terms)
		if plain(quotient) != told {
			t.Errorf("the quotient of %v by %v was %s, and is %v", c.a, c.b, told, quotient)
		}
	}
}

func TestNilAndEmptyPointsAreOneValue(t *testing.T) {
	for _, c := range allPolyCalls() {
		none := polyInput{polyOf(2, 1), impl.Poly{Terms: nil}, 1, 1, 1, nil, 2}
		empty := polyInput{polyOf(2, 1), impl.Poly{Terms: []complex64{}}, 1, 1, 1, []complex64{}, 2}
		if one, two := c.call(none).text(), c.call(empty).text(); one != two {
			t.Errorf("%s has different results for no list: %s and %s", c.name, one, two)
		}
	}
}
