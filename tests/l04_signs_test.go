package tests

import (
	"math"
	"math/big"
	"slices"
	"testing"

	"loop.example/g01358/impl"
)

func TestValidReal(t *testing.T) {
	for _, r := range validReals() {
		if !impl.ValidReal(r) {
			t.Errorf("%v is not valid", r)
		}
	}
	for _, r := range invalidReals() {
		if impl.ValidReal(r) {
			t.Errorf("%v is valid", r)
		}
	}
}

func TestSameReal(t *testing.T) {
	all := slices.Concat(validReals(), invalidReals())
	for i, a := range all {
		for k, b := range all {
			want := plain(a.Terms) == plain(b.Terms)
			if got := impl.SameReal(a, b); got != want {
				t.Errorf("SameReal %v %v (%d and %d): got %v", a, b, i, k, got)
			}
		}
		if !impl.SameReal(a, realOf(slices.Clone(a.Terms)...)) {
			t.Errorf("%v is not the same as itself", a)
		}
		if impl.SameReal(a, realOf(append(slices.Clone(a.Terms), 0)...)) || impl.SameReal(realOf(append([]int64{1}, a.Terms...)...), a) {
			t.Errorf("%v is the same as a longer one", a)
		}
	}
	if !impl.SameReal(impl.Real{}, impl.Real{Terms: []int64{}}) {
		t.Error("nil and empty terms are not the same")
	}
}

func TestRealOfRoots(t *testing.T) {
	cases := []struct {
		roots, want []int64
	}{
		{nil, []int64{1}},
		{[]int64{0}, []int64{0, 1}},
		{[]int64{1, 2}, []int64{2, -3, 1}},
		{[]int64{2, 1}, []int64{2, -3, 1}},
		{[]int64{-1, 1}, []int64{-1, 0, 1}},
		{[]int64{1, 1, 1}, []int64{-1, 3, -3, 1}},
		{[]int64{1000}, []int64{-1000, 1}},
		{[]int64{-1000}, []int64{1000, 1}},
		{[]int64{999, 1}, []int64{999, -1000, 1}},
		{[]int64{1000, -1}, []int64{-1000, -999, 1}},
		{[]int64{1000, 0, 0, 0, 0, 0, 0, 0}, []int64{0, 0, 0, 0, 0, 0, 0, -1000, 1}},
		{make([]int64, 8), []int64{0, 0, 0, 0, 0, 0, 0, 0, 1}},
		{repeated[int64](1, 8), []int64{1, -8, 28, -56, 70, -56, 28, -8, 1}},
		{[]int64{-1, 1, -2, 2, -3, 3, 0, 0}, []int64{0, 0, -36, 0, 49, 0, -14, 0, 1}},
		{[]int64{20, -20, 1, -1}, []int64{400, 0, -401, 0, 1}},
	}
	for _, c := range cases {
		got, ok := impl.RealOfRoots(c.roots)
		wantReal(t, plain("RealOfRoots ", c.roots), got, ok, c.want...)
	}
	wrong := [][]int64{
		{1001}, {-1001}, {1, 1001}, {math.MinInt64}, {math.MaxInt64, 0}, make([]int64, 9), repeated[int64](1, 9), make([]int64, 300),
		// The product has terms that are too great.
		{1000, 1}, {1000, 1000}, {-1000, 1000}, {500, 501}, {33, -33}, repeated[int64](2, 8), repeated[int64](1000, 8), repeated[int64](-1000, 8), repeated[int64](256, 8), {1000, -1000, 0, 0, 0, 0, 0, 0},
	}
	for _, roots := range wrong {
		got, ok := impl.RealOfRoots(roots)
		wantNoReal(t, plain("RealOfRoots ", roots), got, ok)
	}
}

func TestSignAt(t *testing.T) {
	cases := []struct {
		r    impl.Real
		at   place
		want int64
	}{
		{realOf(-2, 0, 1), place{3, 2}, 1},
		{realOf(-2, 0, 1), place{1, 1}, -1},
		{realOf(-2, 0, 1), place{-3, 2}, 1},
		{realOf(-2, 0, 1), place{707106, 500000}, -1},
		{realOf(-2, 0, 1), place{707107, 500000}, 1},
		{realOf(5), place{-7, 3}, 1},
		{realOf(-5), place{greatPart, 1}, -1},
		{realOf(0, 1), place{0, greatPart}, 0},
		{realOf(-1, 2), place{greatPart / 2, greatPart}, 0},
		{realOf(-999, 1000), place{999000, greatPart}, 0},
		{realOf(-999, 1000), place{999001, greatPart}, 1},
		{realOf(-999, 1000), place{998999, greatPart}, -1},
		// Values of which 48 digits behind the point are 0.
		{realOf(1, -8, 28, -56, 70, -56, 28, -8, 1), place{greatPart - 1, greatPart}, 1},
		{realOf(1, -8, 28, -56, 70, -56, 28, -8, 1), place{greatPart, greatPart}, 0},
		{realOf(-1, 7, -21, 35, -35, 21, -7, 1), place{greatPart - 1, greatPart}, -1},
		{realOf(-1, 7, -21, 35, -35, 21, -7, 1), place{greatPart, greatPart - 1}, 1},
		{realPower(8, greatTerm), place{-greatPart, 1}, 1},
		{realPower(8, -greatTerm), place{1, greatPart}, -1},
		{realPower(7, greatTerm), place{-1, greatPart}, -1},
	}
	for _, c := range cases {
		got, ok := impl.SignAt(c.r, c.at[0], c.at[1])
		wantInteger(t, plain("SignAt ", c.r, c.at), got, ok, c.want)
	}
	for _, r := range validReals() {
		for _, at := range endPlaces() {
			got, ok := impl.SignAt(r, at[0], at[1])
			wantInteger(t, plain("SignAt ", r, at), got, ok, signOfReal(r, at.rat()))
		}
		for _, at := range wrongPlaces() {
			got, ok := impl.SignAt(r, at[0], at[1])
			wantNoInteger(t, plain("SignAt ", r, at), got, ok)
		}
	}
}

func TestSignChanges(t *testing.T) {
	cases := []struct {
		r    impl.Real
		want int64
	}{
		{realOf(5), 0}, {realOf(-5), 0}, {realOf(0, 0, 5), 0}, {realOf(2, -3, 1), 2}, {realOf(-2, 3, 1), 1}, {realOf(-2, 0, 1), 1}, {realOf(2, 0, 1), 0},
		{realOf(1, 0, 0, -1), 1}, {realOf(-1, 0, 0, 1, 0, -1), 2}, {realOf(0, 1, 0, 0, 1, 0, -1), 1}, {realOf(0, -1, 1, 0, 1), 1},
		{realOnes(9), 0}, {realOf(1, -1, 1, -1, 1, -1, 1, -1, 1), 8}, {realOf(-1000, 1000, -1000, 1000, -1000, 1000, -1000, 1000, -1000), 8}, {realOf(1, 1, -1, -1, 1, 1, -1, -1, 1), 4},
	}
	for _, c := range cases {
		got, ok := impl.SignChanges(c.r)
		wantInteger(t, plain("SignChanges ", c.r), got, ok, c.want)
	}
}

func TestMirrorReal(t *testing.T) {
	cases := []struct {
		r    impl.Real
		want []int64
	}{
		{realOf(7), []int64{7}}, {realOf(0, 1), []int64{0, -1}}, {realOf(2, -3, 1), []int64{2, 3, 1}}, {realOf(-1, 3, -3, 1), []int64{-1, -3, -3, -1}},
		{realOf(1000, 1000, -1000, -1000), []int64{1000, -1000, -1000, 1000}}, {realOnes(9), []int64{1, -1, 1, -1, 1, -1, 1, -1, 1}},
	}
	for _, c := range cases {
		got, ok := impl.MirrorReal(c.r)
		wantReal(t, plain("MirrorReal ", c.r), got, ok, c.want...)
	}
	for _, r := range validReals() {
		mirror, _ := impl.MirrorReal(r)
		again, ok := impl.MirrorReal(mirror)
		wantReal(t, plain("MirrorReal twice ", r), again, ok, r.Terms...)
		for _, at := range endPlaces() {
			got, ok := impl.SignAt(mirror, -at[0], at[1])
			wantInteger(t, plain("the sign of the opposite ", r, at), got, ok, signOfReal(r, at.rat()))
		}
	}
}

// ratMoved is the tests' own polynomial of x plus a fraction, by powers of a
// sum.
func ratMoved(terms []*big.Rat, by *big.Rat) []*big.Rat {
	moved := make([]*big.Rat, len(terms))
	for i := range moved {
		moved[i] = new(big.Rat)
		power := big.NewRat(1, 1)
		for k := i; k < len(terms); k++ {
			ways := new(big.Rat).SetInt(new(big.Int).Binomial(int64(k), int64(i)))
			moved[i].Add(moved[i], ways.Mul(ways, new(big.Rat).Mul(terms[k], power)))
			power = new(big.Rat).Mul(power, by)
		}
	}
	return moved
}

// ratChanges is the tests' own count of changes.
func ratChanges(terms []*big.Rat) int64 {
	changes, before := int64(0), 0
	for _, term := range terms {
		if term.Sign() != 0 {
			if term.Sign() == -before {
				changes++
			}
			before = term.Sign()
		}
	}
	return changes
}

func TestChangesAt(t *testing.T) {
	cases := []struct {
		r    impl.Real
		at   place
		want int64
	}{
		{realOf(2, -3, 1), place{1, 1}, 1},
		{realOf(2, -3, 1), place{2, 1}, 0},
		{realOf(2, -3, 1), place{0, 1}, 2},
		{realOf(2, -3, 1), place{3, 2}, 1},
		{realOf(2, -3, 1), place{999999, greatPart}, 2},
		{realOf(1, -2, 1), place{999999, greatPart}, 2},
		{realOf(1, -2, 1), place{greatPart, greatPart}, 0},
		{realOf(1, -1, 1), place{0, 1}, 2},
		{realOf(1, -1, 1), place{1, 2}, 0},
		{realOf(1, -1, 1), place{499999, greatPart}, 2},
		{realOf(7), place{greatPart, 1}, 0},
		{eightRoots(), place{-1, 1}, 8},
		{eightRoots(), place{0, 1}, 4},
		{eightRoots(), place{1, 1}, 0},
		{realPower(8, -1), place{-1, greatPart}, 8},
		{realPower(8, -1), place{0, greatPart}, 0},
	}
	for _, c := range cases {
		got, ok := impl.ChangesAt(c.r, c.at[0], c.at[1])
		wantInteger(t, plain("ChangesAt ", c.r, c.at), got, ok, c.want)
	}
	for _, r := range validReals() {
		for _, at := range endPlaces() {
			got, ok := impl.ChangesAt(r, at[0], at[1])
			wantInteger(t, plain("ChangesAt ", r, at), got, ok, ratChanges(ratMoved(ratTerms(r), at.rat())))
		}
		for _, at := range wrongPlaces() {
			got, ok := impl.ChangesAt(r, at[0], at[1])
			wantNoInteger(t, plain("ChangesAt ", r, at), got, ok)
		}
		there, _ := impl.ChangesAt(r, 0, 7)
		changes, ok := impl.SignChanges(r)
		wantInteger(t, plain("SignChanges ", r), changes, ok, there)
	}
}
