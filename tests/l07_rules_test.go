package tests

import (
	"slices"
	"testing"

	"loop.example/g01358/impl"
)

type ruleCase struct {
	list  []int64
	prime int64
	want  []int64
}

// lastOnly returns a list of zeros but for the last number.
func lastOnly(n int, last int64) []int64 {
	list := make([]int64, n)
	list[n-1] = last
	return list
}

func ruleCasesOver() []ruleCase {
	cases := []ruleCase{
		{[]int64{1, 1, 2, 3, 5}, 7, []int64{1, 1}}, {[]int64{1, 2, 4, 8, 3, 6}, 13, []int64{2}}, {[]int64{1, 2, 4, 1, 2, 4}, 7, []int64{2}}, {[]int64{1, 0, 1, 0, 1}, 2, []int64{0, 1}},
		{[]int64{3, 3, 3}, 5, []int64{1}}, {[]int64{1, 2, 3, 4, 5}, 11, []int64{2, 10}}, {[]int64{1, 0, 0, 0}, 5, []int64{0}}, {[]int64{2, 1}, 3, []int64{2}}, {[]int64{12, 12, 12}, 13, []int64{1}},
		{[]int64{1, 4, 9, 3, 12, 10, 10}, 13, []int64{3, 10, 1}}, {[]int64{0, 1, 1, 2, 3, 5, 8}, 11, []int64{1, 1}}, {[]int64{0, 0, 3, 0, 0, 3, 0}, 7, []int64{0, 0, 1}},
		// All but the last one keep a shorter rule.
		{[]int64{1, 1, 1, 2}, 5, []int64{1, 0, 1}}, {[]int64{1, 0}, 2, []int64{0}}, {[]int64{1, 1, 0}, 2, []int64{1, 1}}, {[]int64{1, 2, 4, 3, 0}, 5, []int64{2, 0, 0, 4}},
		{[]int64{0, 1, 0, 2, 1}, 3, []int64{0, 2, 1}},
	}
	for _, prime := range primes() {
		for _, n := range []int{1, 2, 3, 5, impl.MaxRule - 1, impl.MaxRule} {
			cases = append(cases, ruleCase{make([]int64, n), prime, nil}, ruleCase{lastOnly(n, 1), prime, lastOnly(n, 1)}, ruleCase{lastOnly(n, prime-1), prime, lastOnly(n, prime-1)})
			if n > 1 {
				cases = append(cases, ruleCase{repeated[int64](prime-1, n), prime, []int64{1}})
			}
		}
		// A 1 in the middle has a rule that is as long as what ends with it.
		cases = append(cases, ruleCase{append(lastOnly(9, 1), make([]int64, 20)...), prime, make([]int64, 9)})
	}
	return cases
}

func TestRuleOver(t *testing.T) {
	for _, c := range ruleCasesOver() {
		got, ok := impl.RuleOver(c.list, c.prime)
		wantIntegers(t, plain("RuleOver ", c.list, " and ", c.prime), got, ok, c.want...)
	}
	for _, list := range noLists(7) {
		got, ok := impl.RuleOver(list, 7)
		wantNoIntegers(t, plain("RuleOver ", list), got, ok)
	}
	for _, prime := range notPrimes() {
		for _, list := range [][]int64{{0}, {1}, {0, 0}, {1, 0, 1}} {
			got, ok := impl.RuleOver(list, prime)
			wantNoIntegers(t, plain("RuleOver ", list, " and ", prime), got, ok)
		}
	}
}

// noLists are lists that have no numbers over a prime, or too many of them.
func noLists(prime int64) [][]int64 {
	lists := [][]int64{nil, {}, make([]int64, impl.MaxRule+1), repeated[int64](1, impl.MaxRule+1), make([]int64, 500)}
	return append(lists, notOver(prime)...)
}

func notOver(prime int64) [][]int64 {
	lists := [][]int64{}
	for _, x := range append(farNumbers(), -1, prime, prime+1, -prime, 2*prime) {
		lists = append(lists, []int64{x}, []int64{x, 1}, []int64{1, x}, append(make([]int64, impl.MaxRule-1), x))
	}
	return lists
}

type followingCase struct {
	rule, first  []int64
	prime, count int64
	want         []int64
}

func TestFollowRule(t *testing.T) {
	fibonacci := []int64{1, 1, 2, 3, 5, 1, 6, 0, 6, 6, 5, 4, 2, 6, 1, 0, 1, 1}
	steps := make([]int64, impl.MaxRule)
	for i := range steps {
		steps[i] = int64(i) % 13
	}
	cases := []followingCase{
		{nil, nil, 2, 0, nil}, {nil, nil, 7, 1, []int64{0}}, {nil, nil, 13, impl.MaxRule, make([]int64, impl.MaxRule)},
		{[]int64{1, 1}, []int64{1, 1}, 7, 7, fibonacci[:7]}, {[]int64{1, 1}, []int64{1, 1}, 7, 18, fibonacci}, {[]int64{1, 1}, []int64{1, 1}, 7, 2, fibonacci[:2]},
		{[]int64{1, 1}, []int64{1, 1}, 7, 1, fibonacci[:1]}, {[]int64{1, 1}, []int64{1, 1}, 7, 0, nil}, {[]int64{0}, []int64{6}, 7, 3, []int64{6, 0, 0}}, {[]int64{2}, []int64{1}, 13, 6, []int64{1, 2, 4, 8, 3, 6}},
		// The first number of a rule belongs to the last number before.
		{[]int64{1, 0, 0}, []int64{2, 3, 4}, 5, 5, []int64{2, 3, 4, 4, 4}}, {[]int64{0, 0, 1}, []int64{2, 3, 4}, 5, 7, []int64{2, 3, 4, 2, 3, 4, 2}}, {[]int64{1, 2, 3}, []int64{1, 0, 2}, 5, 4, []int64{1, 0, 2, 0}},
		{[]int64{12, 12}, []int64{12, 12}, 13, 4, []int64{12, 12, 2, 12}}, {[]int64{1}, []int64{1}, 2, impl.MaxRule, repeated[int64](1, impl.MaxRule)},
		{repeated[int64](12, impl.MaxRule), steps, 13, impl.MaxRule, steps}, {repeated[int64](12, impl.MaxRule), steps, 13, 9, steps[:9]}, {lastOnly(impl.MaxRule-1, 2), steps[1:], 13, impl.MaxRule, append(append([]int64{}, steps[1:]...), 2)},
	}
	for _, c := range cases {
		got, ok := impl.FollowRule(c.rule, c.first, c.prime, c.count)
		wantIntegers(t, plain("FollowRule ", c.rule, ", ", c.first, ", ", c.prime, " and ", c.count), got, ok, c.want...)
	}
}

func TestNoFollowRule(t *testing.T) {
	fails := func(rule, first []int64, prime, count int64) {
		t.Helper()
		got, ok := impl.FollowRule(rule, first, prime, count)
		wantNoIntegers(t, plain("FollowRule ", rule, ", ", first, ", ", prime, " and ", count), got, ok)
	}
	for _, count := range []int64{0, 1, 2, 5, impl.MaxRule} {
		for _, list := range notOver(7) {
			fails(list, make([]int64, len(list)), 7, count)
			fails(make([]int64, len(list)), list, 7, count)
		}
		for _, n := range []int{impl.MaxRule + 1, 500} {
			fails(make([]int64, n), make([]int64, n), 7, count)
		}
		for _, lengths := range [][2]int{{0, 1}, {1, 0}, {1, 2}, {2, 1}, {63, 64}, {64, 63}, {64, 65}, {65, 64}, {0, 64}, {64, 0}} {
			fails(make([]int64, lengths[0]), make([]int64, lengths[1]), 7, count)
		}
		for _, prime := range notPrimes() {
			fails(nil, nil, prime, count)
			fails([]int64{0}, []int64{0}, prime, count)
			fails([]int64{1, 0}, []int64{0, 1}, prime, count)
		}
	}
	for _, count := range append(farNumbers(), -1, impl.MaxRule+1) {
		fails(nil, nil, 7, count)
		fails([]int64{1}, []int64{1}, 7, count)
		fails(make([]int64, impl.MaxRule), make([]int64, impl.MaxRule), 7, count)
	}
}

// sumsOfTwo returns n numbers, each of them the rounded sum of the two before it.
func sumsOfTwo(n int) []complex64 {
	list := make([]complex64, n)
	before, next := float32(1), float32(1)
	for i := range list {
		list[i] = complex(before, 0)
		before, next = next, before+next
	}
	return list
}

// powersFrom returns n numbers, each of them as many times the one before it.
func powersFrom(first, by float32, n int) []complex64 {
	list := make([]complex64, n)
	for i := range list {
		list[i] = complex(first, 0)
		first *= by
	}
	return list
}

func TestRunRule(t *testing.T) {
	const far = 0x1p24
	cases := []struct {
		rule, first []complex64
		count       int64
		want        []complex64
	}{
		{[]complex64{2}, []complex64{1}, 4, []complex64{1, 2, 4, 8}}, {[]complex64{1, 1}, []complex64{1, 1}, 7, []complex64{1, 1, 2, 3, 5, 8, 13}}, {[]complex64{complex(0, 1)}, []complex64{1}, 5, []complex64{1, complex(0, 1), -1, complex(0, -1), 1}},
		{[]complex64{1, 1}, []complex64{4, 5}, 1, []complex64{4}}, {[]complex64{1, 1}, []complex64{4, 5}, 2, []complex64{4, 5}}, {[]complex64{0}, []complex64{minusBoth}, 3, []complex64{minusBoth, 0, 0}},
		{[]complex64{1, 0, 0}, []complex64{2, 3, 4}, 5, []complex64{2, 3, 4, 4, 4}}, {[]complex64{0, 0, 1}, []complex64{2, 3, 4}, 7, []complex64{2, 3, 4, 2, 3, 4, 2}}, {[]complex64{1, 2, 3}, []complex64{1, 0, 2}, 4, []complex64{1, 0, 2, 5}},
		{[]complex64{1}, []complex64{3}, impl.MaxSeries, repeated[complex64](3, impl.MaxSeries)}, {repeated[complex64](1, impl.MaxSeries), countUp(1, impl.MaxSeries), impl.MaxSeries, countUp(1, impl.MaxSeries)},
		{repeated[complex64](1, impl.MaxSeries), countUp(1, impl.MaxSeries), 3, countUp(1, 3)}, {repeated[complex64](1, 15), countUp(1, 15), 16, append(countUp(1, 15), 120)},
		// The sum goes from the last number before on.
		{[]complex64{1, 1, 1}, []complex64{far, 1, 1}, 4, []complex64{far, 1, 1, far + 2}}, {[]complex64{1, 1, 1}, []complex64{1, 1, far}, 4, []complex64{1, 1, far, far}},
		{[]complex64{complex(greatest, 0)}, []complex64{complex(greatest, 0)}, 1, []complex64{complex(greatest, 0)}},
		// A count of 0 leaves out even the first ones.
		{[]complex64{1}, []complex64{2}, 0, nil}, {[]complex64{1, 1}, []complex64{4, 5}, 0, nil}, {repeated[complex64](1, impl.MaxSeries), countUp(1, impl.MaxSeries), 0, nil}, {[]complex64{complex(greatest, 0)}, []complex64{complex(greatest, 0)}, 0, nil},
		// Numbers go on behind as many as a rule can have.
		{[]complex64{1}, []complex64{2}, impl.MaxSeries + 1, repeated[complex64](2, impl.MaxSeries+1)}, {[]complex64{1, 1}, []complex64{1, 1}, impl.MaxRule, sumsOfTwo(impl.MaxRule)}, {[]complex64{1, 1}, []complex64{1, 1}, impl.MaxRule - 1, sumsOfTwo(impl.MaxRule - 1)},
		{repeated[complex64](1, impl.MaxSeries), countUp(1, impl.MaxSeries), impl.MaxSeries + 2, append(countUp(1, impl.MaxSeries), 136, 271)}, {append(make([]complex64, impl.MaxSeries-1), 1), countUp(1, impl.MaxSeries), impl.MaxRule, slices.Repeat(countUp(1, impl.MaxSeries), 4)},
		// The last number is nearly too great.
		{[]complex64{2}, []complex64{0x1p64}, impl.MaxRule, powersFrom(0x1p64, 2, impl.MaxRule)}, {[]complex64{4}, []complex64{2}, impl.MaxRule, powersFrom(2, 4, impl.MaxRule)}, {[]complex64{4}, []complex64{4}, impl.MaxRule - 1, powersFrom(4, 4, impl.MaxRule-1)},
	}
	for _, c := range cases {
		got, ok := impl.RunRule(c.rule, c.first, c.count)
		wantList(t, plain("RunRule ", c.rule, ", ", c.first, " and ", c.count), got, ok, c.want...)
	}
}

func TestNoRunRule(t *testing.T) {
	fails := func(rule, first []complex64, count int64) {
		t.Helper()
		got, ok := impl.RunRule(rule, first, count)
		wantNoList(t, plain("RunRule ", rule, ", ", first, " and ", count), got, ok)
	}
	for _, count := range []int64{0, 1, 2, 5, impl.MaxSeries, impl.MaxSeries + 1, impl.MaxRule} {
		for _, list := range noSeries(0) {
			fails(list, make([]complex64, len(list)), count)
			fails(make([]complex64, len(list)), list, count)
		}
		for _, lengths := range [][2]int{{0, 1}, {1, 0}, {1, 2}, {2, 1}, {15, 16}, {16, 15}, {16, 17}, {17, 16}} {
			fails(make([]complex64, lengths[0]), make([]complex64, lengths[1]), count)
		}
	}
	for _, count := range append(farNumbers(), -1, impl.MaxRule+1) {
		fails([]complex64{1}, []complex64{1}, count)
		fails(nil, nil, count)
		fails(repeated[complex64](1, impl.MaxSeries), repeated[complex64](1, impl.MaxSeries), count)
	}
	fails([]complex64{0x1p64}, []complex64{0x1p64}, 2)
	fails([]complex64{0x1p30}, []complex64{1}, 6)
	fails([]complex64{1, 1}, []complex64{complex(greatest, 0), complex(greatest, 0)}, 3)
	fails([]complex64{4}, []complex64{4}, impl.MaxRule)
	fails([]complex64{complex(0, 2)}, []complex64{0x1p65}, impl.MaxRule)
}

func TestSpeedUp(t *testing.T) {
	far := complex(greatest, 0)
	cases := []seriesPair{
		{[]complex64{0, 1, 1.5}, []complex64{2}}, {[]complex64{0, 1, 1.5, 1.75, 1.875}, []complex64{2, 2, 2}}, {[]complex64{8, 4, 2, 1}, []complex64{0, 0}}, {[]complex64{1, -1, 1, -1}, []complex64{0, 0}},
		{[]complex64{0, complex(0, 2), complex(0, 3)}, []complex64{complex(0, 4)}}, {[]complex64{1, complex(0, 1), -1, complex(0, -1)}, []complex64{0, 0}},
		// Where the difference of differences is 0, the last number is told.
		{[]complex64{1, 2, 3}, []complex64{3}}, {[]complex64{7, 7, 7, 7}, []complex64{7, 7}}, {[]complex64{0, 0, minusBoth}, []complex64{minusBoth}}, {[]complex64{complex(0, 1), complex(0, 2), complex(0, 3)}, []complex64{complex(0, 3)}},
		{[]complex64{1, complex(minusZero, minusZero), -1}, []complex64{-1}}, {stepsBy(complex(1, -1), impl.MaxSeries), stepsBy(complex(1, -1), impl.MaxSeries)[2:]},
		// Where only the last difference is 0, 0 is taken away.
		{[]complex64{1, 2, 2}, []complex64{complex(2, 0)}}, {[]complex64{1, minusBoth, minusBoth}, []complex64{minusBoth}},
		// Each difference is rounded: 2^24 + 1 is 2^24, which is the other one.
		{[]complex64{-1, 0x1p24, 0x1p25}, []complex64{0x1p25}}, {[]complex64{-far, 0, far}, []complex64{far}}, {[]complex64{0, 1, 3}, []complex64{-1}}, {[]complex64{5, 1, 9}, []complex64{complex(9-by(64, 12), 0)}},
	}
	for _, c := range cases {
		got, ok := impl.SpeedUp(c.a)
		wantList(t, plain("SpeedUp ", c.a), got, ok, c.want...)
	}
	wrong := append(noSeries(1), []complex64{1}, []complex64{1, 2}, []complex64{far, -far, 0}, []complex64{0, 0x1p65, 0x1p64}, []complex64{0, 1, 0x1p66}, []complex64{0, 1, 1.5, 0x1p66}, []complex64{far, far, -far})
	for _, x := range infinities() {
		wrong = append(wrong, []complex64{x, 1, 3}, []complex64{0, x, 3}, []complex64{0, 1, x}, []complex64{0, 1, 1.5, x})
	}
	for _, a := range wrong {
		got, ok := impl.SpeedUp(a)
		wantNoList(t, plain("SpeedUp ", a), got, ok)
	}
}
