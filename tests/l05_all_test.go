package tests

import (
	"testing"

	"loop.example/g01358/impl"
)

// two has the roots 1 and 2.
func two() impl.Poly {
	return polyOf(2, -3, 1)
}

func TestStartRing(t *testing.T) {
	third := float32(1) / 3
	cases := []struct {
		p    impl.Poly
		turn float32
		want []complex64
	}{
		{polyOf(-2, 1), plusZero, []complex64{1.5}},
		{polyOf(-2, 1), minusZero, []complex64{1.5}},
		{polyOf(complex(3, 4), 1), 0.5, []complex64{-3}},
		{polyOf(0, 0, 0, 0, 1), 0, []complex64{0.5, complex(0, 0.5), -0.5, complex(0, -0.5)}},
		{polyOf(-1, 0, 0, 0, 1), 0, []complex64{1, complex(0, 1), -1, complex(0, -1)}},
		{polyOf(-1, 0, 0, 0, 1), 0.25, []complex64{complex(0, 1), -1, complex(0, -1), 1}},
		{polyOf(-1, 0, 0, 0, 1), -0.25, []complex64{complex(0, -1), 1, complex(0, 1), -1}},
		{polyOf(-1, 0, 0, 1), 0.125, []complex64{impl.PhasorOf(0.125), impl.PhasorOf(float64(0.125 + third)), impl.PhasorOf(float64(0.125 + 2*third))}},
		// The sum of turns is a 32-bit number.
		{polyOf(-1, 0, 0, 0, 1), 16777216, []complex64{1, 1, 1, 1}},
		{polyOf(-1, 0, 0, 0, 1), greatest, []complex64{1, 1, 1, 1}},
		{polyOf(complex(greatest, 0), 4), 0, []complex64{complex(greatest/8, 0)}},
	}
	for _, c := range cases {
		got, ok := impl.StartRing(c.p, c.turn)
		wantList(t, plain("StartRing of ", c.p, " and ", c.turn), got, ok, c.want...)
	}
	if got, ok := impl.StartRing(ones(17), 0.1); !ok || len(got) != 16 {
		t.Errorf("StartRing of the greatest degree: %v, %v", got, ok)
	}
	for _, turn := range []float32{plusInf, minusInf, nan, oddNaN} {
		got, ok := impl.StartRing(polyOf(-2, 1), turn)
		wantNoList(t, "StartRing of no turn", got, ok)
	}
	for _, p := range append(noRootPolys(), polyOf(complex(greatest, 0), 0.5)) {
		got, ok := impl.StartRing(p, 0)
		wantNoList(t, plain("StartRing of ", p), got, ok)
	}
}

type allCall func(impl.Poly, []complex64) ([]complex64, bool)

// notAsMany are lists that have another length than a degree of 2.
func notAsMany() [][]complex64 {
	return append(noRootLists(), []complex64{1}, []complex64{1, 2, 3}, stepsBy(1, impl.MaxRoots))
}

// wantNoAll checks that a function fails for wrong arguments.
func wantNoAll(t *testing.T, name string, call allCall) {
	t.Helper()
	for _, list := range notAsMany() {
		got, ok := call(two(), list)
		wantNoList(t, plain(name, " of ", list), got, ok)
	}
	for _, p := range noRootPolys() {
		for _, n := range []int{0, 1, 2, len(p.Terms) - 1} {
			got, ok := call(p, stepsBy(1, max(0, n)))
			wantNoList(t, plain(name, " of ", p), got, ok)
		}
	}
	got, ok := call(ones(17), stepsBy(1, 15))
	wantNoList(t, name+" of 15 numbers for a degree of 16", got, ok)
	// The value of the second one is not finite.
	got, ok = call(power(2, 1), []complex64{1, 0x1p64})
	wantNoList(t, name+" of a value that is not finite", got, ok)
}

func TestAllOnce(t *testing.T) {
	twoThirds := float32(2) / 3
	cases := []struct {
		p          impl.Poly
		list, want []complex64
	}{
		{two(), []complex64{1, 2}, []complex64{1, 2}},
		{two(), []complex64{2, 1}, []complex64{2, 1}},
		// Both are told with the old list.
		{two(), []complex64{0, 3}, []complex64{complex(twoThirds, 0), complex(3-twoThirds, 0)}},
		{polyOf(4, -6, 2), []complex64{0, 3}, []complex64{complex(twoThirds, 0), complex(3-twoThirds, 0)}},
		{polyOf(-2, 1), []complex64{7}, []complex64{2}},
		{polyOf(-4, complex(0, 2)), []complex64{0}, []complex64{complex(0, -2)}},
		// A value of 0 takes 0 away, which makes -0 be +0 in one part.
		{polyOf(0, -1, 1), []complex64{minusBoth, 1}, []complex64{complex(plusZero, minusZero), 1}},
		{polyOf(-1, 0, 1), []complex64{complex(0, 1), complex(0, -1)}, []complex64{0, 0}},
		{withRoots(1, 2, 3), []complex64{0, 2, 4}, []complex64{0.75, 2, 3.25}},
	}
	for _, c := range cases {
		got, ok := impl.AllOnce(c.p, c.list)
		wantList(t, plain("AllOnce of ", c.p, " and ", c.list), got, ok, c.want...)
	}
	wantNoAll(t, "AllOnce", impl.AllOnce)
	wrong := []struct {
		p    impl.Poly
		list []complex64
	}{
		// Numbers that are there more than once: also where the value is 0.
		{two(), []complex64{0, 0}}, {two(), []complex64{1, 1}}, {power(2, 1), []complex64{0, minusBoth}}, {withRoots(1, 2, 3), []complex64{1, 5, 5}},
		{polyOf(complex(greatest, 0), 1, 0.5), []complex64{1, 2}}, {wideSteps(), wideList()},
	}
	for _, c := range wrong {
		got, ok := impl.AllOnce(c.p, c.list)
		wantNoList(t, plain("AllOnce of ", c.p, " and ", c.list), got, ok)
	}
}

// wideSteps is a polynomial of which AllOnce takes so much away from numbers of
// wideList that they are not finite, although what it takes away is.
func wideSteps() impl.Poly {
	return polyOf(0, 0.25, 0x1p-130)
}

func wideList() []complex64 {
	return []complex64{-3 * 0x1p126, -0x1p126}
}

func TestAberthOnce(t *testing.T) {
	cases := []struct {
		p          impl.Poly
		list, want []complex64
	}{
		{two(), []complex64{1, 2}, []complex64{1, 2}},
		{polyOf(-2, 1), []complex64{7}, []complex64{2}},
		// Where the value is 0, it is z itself, also one that is there twice.
		{polyOf(0, -1, 1), []complex64{minusBoth, 1}, []complex64{minusBoth, 1}},
		{two(), []complex64{1, 1}, []complex64{1, 1}},
		{power(2, 1), []complex64{minusBoth, 0}, []complex64{minusBoth, 0}},
		// w is 0.5, and the sum is 1; then, w is -1, and the sum is -1.
		{polyOf(0, 0, 1), []complex64{1, 0}, []complex64{0, 0}},
		// The first one is told, and then is in the place of the old one.
		{polyOf(-1, 0, 1), []complex64{0.5, -1}, []complex64{1, -1}},
	}
	for _, c := range cases {
		got, ok := impl.AberthOnce(c.p, c.list)
		wantList(t, plain("AberthOnce of ", c.p, " and ", c.list), got, ok, c.want...)
	}
	// The latter one is told with 6/7, not with 0.
	got, ok := impl.AberthOnce(two(), []complex64{0, 3})
	if !ok || len(got) != 2 {
		t.Fatalf("AberthOnce of 0 and 3: %v, %v", got, ok)
	}
	wantClose(t, "the former one", got[0], 6.0/7, 1e-6)
	wantClose(t, "the latter one", got[1], 63.0/31, 1e-6)
	wantNoAll(t, "AberthOnce", impl.AberthOnce)
	wrong := []struct {
		p    impl.Poly
		list []complex64
	}{
		{two(), []complex64{0, 0}}, {withRoots(1, 2, 3), []complex64{5, 5, 1}}, {withRoots(1, 2, 3), []complex64{1, 5, 5}},
		// A slope of 0, and 1 less w times the sum of 0.
		{polyOf(1, 0, 1), []complex64{0, 1}}, {polyOf(0, 0, 1), []complex64{1, 0.5}},
		// Differences that are too small, and too great.
		{two(), []complex64{0, complex(least, 0)}}, {polyOf(1, 0x1p-64, 0x1p-130), []complex64{complex(greatest, 0), complex(minusGreat, 0)}},
		// All quotients are finite, but not what is left.
		{polyOf(0, 1.3125, 5*0x1p-130), []complex64{-3 * 0x1p126, 0x1p125}},
	}
	for _, c := range wrong {
		got, ok := impl.AberthOnce(c.p, c.list)
		wantNoList(t, plain("AberthOnce of ", c.p, " and ", c.list), got, ok)
	}
	// The slope is not finite, and not taken where all values are 0.
	got, ok = impl.AberthOnce(power(2, complex(greatest, 0)), []complex64{0, 0})
	wantList(t, "AberthOnce without slopes", got, ok, 0, 0)
}

func TestAllRoots(t *testing.T) {
	cases := []struct {
		p          impl.Poly
		turn, near float32
		most       int64
		want       []complex64
		times      int64
	}{
		// From 1.5 to 2, by 0.5, and then by 0.
		{polyOf(-2, 1), 0, 0.5, 1, []complex64{2}, 1}, {polyOf(-2, 1), 0, 0.5, impl.MaxTurns, []complex64{2}, 1}, {polyOf(-2, 1), 0, 0.49999997, 9, []complex64{2}, 2},
		{polyOf(-2, 1), 0, plusZero, 2, []complex64{2}, 2}, {polyOf(-2, 1), 0, minusZero, impl.MaxTurns, []complex64{2}, 2}, {polyOf(-2, 1), 0, greatest, 1, []complex64{2}, 1},
		{polyOf(-2, 1), 0.5, 3.5, 1, []complex64{2}, 1}, {polyOf(-2, 1), 0.5, 3.4, 2, []complex64{2}, 2},
		{polyOf(-1, 0, 0, 0, 1), 0, 0, 1, []complex64{1, complex(0, 1), -1, complex(0, -1)}, 1},
		{polyOf(-1, 0, 0, 0, 1), 0.25, 0, 5, []complex64{complex(0, 1), -1, complex(0, -1), 1}, 1},
	}
	for _, c := range cases {
		got, times, ok := impl.AllRoots(c.p, c.turn, c.near, c.most)
		what := plain("AllRoots of ", c.p, ", ", c.turn, ", ", c.near, " and ", c.most)
		wantList(t, what, got, ok, c.want...)
		wantInteger(t, what, times, ok, c.times)
	}
	p := polyOf(-2, 1)
	wrong := []struct {
		p          impl.Poly
		turn, near float32
		most       int64
	}{
		{p, 0, 0.25, 1}, {p, 0, 0, 1}, {p, 0.5, 3.4, 1}, {p, 0, 1, 0}, {p, 0, 1, -1}, {p, 0, 1, impl.MaxTurns + 1}, {p, 0, 1, 1<<63 - 1}, {p, 0, 1, -1 << 63},
		{p, 0, minusLeast, 9}, {p, 0, -1, 9}, {p, 0, plusInf, 9}, {p, 0, minusInf, 9}, {p, 0, nan, 9}, {p, plusInf, 1, 9}, {p, nan, 1, 9},
		// Its beginning has values that are not finite.
		{polyOf(0x1p60, 0, 0, 1), 0, 1, 9},
	}
	for _, p := range noRootPolys() {
		wrong = append(wrong, wrong[0])
		wrong[len(wrong)-1].p = p
	}
	for _, c := range wrong {
		got, times, ok := impl.AllRoots(c.p, c.turn, c.near, c.most)
		what := plain("AllRoots of ", c.p, ", ", c.turn, ", ", c.near, " and ", c.most)
		wantNoList(t, what, got, ok)
		wantNoInteger(t, what, times, ok)
	}
}

// TestAllRootsIsAberthAgainAndAgain has roots that are there more than once,
// to which the steps become small slowly.
func TestAllRootsIsAberthAgainAndAgain(t *testing.T) {
	for _, p := range []impl.Poly{two(), withRoots(1, 1, 1), withRoots(complex(0, 1), -2, -2, 3), power(5, 1), ones(17)} {
		for _, near := range []float32{1, 0.01, 1e-4} {
			list, ok := impl.StartRing(p, 0.1)
			times := int64(0)
			for far := 2 * near; ok && far > near; times++ {
				var next []complex64
				next, ok = impl.AberthOnce(p, list)
				far = 0
				for i, z := range next {
					far = max(far, impl.LongOf(z-list[i]))
				}
				list = next
			}
			got, gotTimes, gotOk := impl.AllRoots(p, 0.1, near, times)
			wantList(t, plain("AllRoots of ", p), got, gotOk && ok, list...)
			wantInteger(t, plain("the times of ", p), gotTimes, gotOk, times)
			got, _, ok = impl.AllRoots(p, 0.1, near, times-1)
			wantNoList(t, plain("AllRoots of ", p, " too short"), got, ok)
		}
	}
}

func TestDiscsOf(t *testing.T) {
	twoThirds := float32(2) / 3
	cases := []struct {
		p    impl.Poly
		list []complex64
		want []float32
	}{
		{two(), []complex64{1, 2}, []float32{0, 0}},
		{two(), []complex64{0, 3}, []float32{2 * twoThirds, 2 * twoThirds}},
		{polyOf(-2, 1), []complex64{complex(5, 4)}, []float32{5}},
		{withRoots(1, 2, 3), []complex64{0, 2, 4}, []float32{2.25, 0, 2.25}},
		// What AllOnce takes away is finite, although what is left is not.
		{wideSteps(), wideList(), []float32{3 * 0x1p126, 3 * 0x1p126}},
	}
	for _, c := range cases {
		got, ok := impl.DiscsOf(c.p, c.list)
		wantNumbers(t, plain("DiscsOf ", c.p, " and ", c.list), got, ok, c.want...)
	}
	wantNoAll(t, "DiscsOf", func(p impl.Poly, list []complex64) ([]complex64, bool) {
		radii, ok := impl.DiscsOf(p, list)
		return make([]complex64, len(radii)), ok
	})
	for _, list := range [][]complex64{{0, 0}, {1, 1}} {
		got, ok := impl.DiscsOf(two(), list)
		wantNoNumbers(t, plain("DiscsOf ", list), got, ok)
	}
	// The quotient is finite, but not as often as the degree tells.
	got, ok := impl.DiscsOf(polyOf(0x1p127, 0, 1), []complex64{0, 1})
	wantNoNumbers(t, "DiscsOf that are not finite", got, ok)
}

type discCase struct {
	list  []complex64
	radii []float32
	want  bool
}

func discCases() []discCase {
	at := func(list ...complex64) []complex64 { return list }
	by := func(list ...float32) []float32 { return list }
	great, far := complex(greatest, 0), complex(minusGreat, 0)
	return []discCase{
		{at(0, 5), by(1, 2), true}, {at(5), by(3), true}, {at(5), by(greatest), true},
		// Discs that touch, and that just do not.
		{at(0, 2), by(1, 1), false}, {at(0, 2), by(1, 0.9999999), true}, {at(0, 2), by(1.0000001, 1), false},
		{at(0, complex(3, 4)), by(2, 3), false}, {at(0, complex(3, 4)), by(2, 2.9999995), true}, {at(1, 1), by(0, 0), false}, {at(1, afterOnePair()), by(0, 0), true},
		// The sum is a 32-bit number, and 5.
		{at(0, complex(3, 4)), by(2, 2.9999998), false},
		// Not only those beside each other, and not in one order only.
		{at(0, 10, 1), by(0.5, 0.5, 0.5), false}, {at(10, 0, 1), by(0.5, 0.5, 0.5), false}, {at(0, 1, 10), by(0.5, 0.5, 0.5), false}, {at(0, 10, 1), by(0.5, 0.5, 0.25), true},
		{at(0, 1, 2, 3), by(0.25, 0.25, 0.25, 0.25), true}, {at(0, 1, 2, 3), by(0, 1, 0, 0), false},
		// -0 is at least 0.
		{at(0, 1), by(minusZero, 0.5), true}, {at(0, 0), by(minusZero, minusZero), false},
		{at(5), by(-1), false}, {at(5), by(minusLeast), false}, {at(0, 9), by(-1, 1), false}, {at(0, 9), by(1, -1), false},
		{at(5), by(plusInf), false}, {at(5), by(nan), false}, {at(0, 5), by(1, minusInf), false}, {at(0, 5), by(oddNaN, 1), false},
		// Other lengths, and none.
		{nil, nil, false}, {at(), by(), false}, {at(0), nil, false}, {nil, by(1), false}, {at(0, 5), by(1), false}, {at(0), by(1, 1), false}, {at(0, 5), by(1, 1, 1), false},
		{stepsBy(1, 16), repeated[float32](0.25, 16), true}, {stepsBy(1, 17), repeated[float32](0.25, 17), false},
		// Differences and sums that are not finite.
		{at(great, far), by(greatest, 1), true}, {at(great, far), by(greatest, greatest), false}, {at(0, 1), by(greatest, greatest), false},
	}
}

func afterOnePair() complex64 {
	return complex(afterOne, 0)
}

func TestDiscsApart(t *testing.T) {
	for _, c := range discCases() {
		if got := impl.DiscsApart(c.list, c.radii); got != c.want {
			t.Errorf("DiscsApart of %v and %v is %v", c.list, c.radii, got)
		}
	}
	for _, list := range noRootLists() {
		if impl.DiscsApart(list, make([]float32, len(list))) {
			t.Errorf("DiscsApart of %v is true", list)
		}
	}
}
