package tests

import (
	"math"
	"testing"

	"loop.example/g01358/impl"
)

func ofBits(list ...uint32) []float32 {
	numbers := make([]float32, len(list))
	for i, bits := range list {
		numbers[i] = math.Float32frombits(bits)
	}
	return numbers
}

func TestRoundPoints(t *testing.T) {
	cases := [][]float32{
		// The sine of half a turn is -0.
		{minusZero},
		ofBits(0x3f3504f3, 0xbf3504f3),
		ofBits(0x3f5db3d7, 0x80000000, 0xbf5db3d5),
	}
	for i, want := range cases {
		got, ok := impl.RoundPoints(int64(i) + 1)
		wantNumbers(t, plain("RoundPoints of ", i+1), got, ok, want...)
	}
	for n := int64(1); n <= impl.MaxTerms; n++ {
		got, ok := impl.RoundPoints(n)
		if !ok || len(got) != int(n) {
			t.Fatalf("RoundPoints of %d: %v, %v", n, got, ok)
		}
		for k, x := range got {
			wantFloat(t, plain("RoundPoints of ", n), x, impl.SineTurns(by(float32(2*k+1), float32(4*n))+0.25))
			if want := math.Cos(math.Pi * (float64(k) + 0.5) / float64(n)); math.Abs(float64(x)-want) > 1e-6 {
				t.Errorf("RoundPoints of %d: %v for %v", n, x, want)
			}
		}
	}
	for _, n := range []int64{0, -1, impl.MaxTerms + 1, 1 << 32, 1<<62 + 1, math.MinInt64, math.MaxInt64} {
		got, ok := impl.RoundPoints(n)
		wantNoNumbers(t, plain("RoundPoints of ", n), got, ok)
	}
}

func TestRoundFit(t *testing.T) {
	cases := []struct {
		values, want []float32
	}{
		{[]float32{5}, []float32{5}}, {[]float32{minusZero}, []float32{plusZero}}, {[]float32{greatest}, []float32{greatest}}, {[]float32{minusLeast}, []float32{minusLeast}},
		{[]float32{3, 3}, []float32{3, plusZero}},
		// The sines of 3/8 and of 5/8 of a turn are opposites.
		{[]float32{1, -1}, ofBits(0, 0x3fb504f3)},
		{[]float32{1, 2}, []float32{1.5, impl.SineTurns(0.375) - 2*impl.SineTurns(0.375)}},
		{[]float32{greatest / 2, greatest / 2}, []float32{greatest / 2, plusZero}},
	}
	for _, c := range cases {
		got, ok := impl.RoundFit(c.values)
		wantNumbers(t, plain("RoundFit of ", c.values), got, ok, c.want...)
	}
	for n := 1; n <= impl.MaxTerms; n++ {
		got, ok := impl.RoundFit(repeated[float32](2, n))
		if !ok || len(got) != n {
			t.Errorf("RoundFit of %d values: %v, %v", n, got, ok)
		}
	}
	// The sum comes first, which is not finite, although half of it would be.
	wrong := [][]float32{{greatest, greatest}, {greatest, minusGreat}, nil, {}, make([]float32, impl.MaxTerms+1), make([]float32, 300)}
	for _, x := range notFinite() {
		wrong = append(wrong, []float32{x}, []float32{x, 1}, []float32{1, x}, []float32{1, x, 1})
	}
	for _, values := range wrong {
		got, ok := impl.RoundFit(values)
		wantNoNumbers(t, plain("RoundFit of ", values), got, ok)
	}
}

func TestEvenNodes(t *testing.T) {
	cases := []struct {
		nodes, masses []float32
	}{
		// Nodes in the middle are -0, since the sine of half a turn is.
		{[]float32{minusZero}, []float32{2}},
		{ofBits(0x3f13cd3a, 0xbf13cd3a), ofBits(0x3f800001, 0x3f800001)},
		{ofBits(0x3f464bf8, 0x80000000, 0xbf464bf8), ofBits(0x3f0e38e3, 0x3f638e39, 0x3f0e38e3)},
		{ofBits(0x3f5c736e, 0x3eae11ff, 0xbeae11ff, 0xbf5c736f), ofBits(0x3eb21a07, 0x3f26f2fb, 0x3f26f2fb, 0x3eb21a00)},
	}
	for i, c := range cases {
		nodes, masses, ok := impl.EvenNodes(int64(i) + 1)
		wantNumbers(t, plain("the nodes of EvenNodes of ", i+1), nodes, ok, c.nodes...)
		wantNumbers(t, plain("the weights of EvenNodes of ", i+1), masses, ok, c.masses...)
	}
	for n := int64(1); n <= impl.MaxNodes; n++ {
		nodes, masses, ok := impl.EvenNodes(n)
		if !ok || len(nodes) != int(n) || len(masses) != int(n) {
			t.Fatalf("EvenNodes of %d: %v, %v, %v", n, nodes, masses, ok)
		}
		if middle := nodes[n/2]; n%2 == 1 && !sameFloat(middle, minusZero) {
			t.Errorf("EvenNodes of %d has the middle %v", n, middle)
		}
		sum := float32(0)
		for k, x := range nodes {
			value, _ := impl.FamilyAt(2, n, x)
			if math.Abs(float64(value)) > 1e-5 || k > 0 && x >= nodes[k-1] {
				t.Errorf("EvenNodes of %d has the node %v in %v", n, x, nodes)
			}
			sum += masses[k]
		}
		wantClose(t, "the sum of weights", complex(sum, 0), 2, 1e-5)
	}
	for _, n := range []int64{0, -1, impl.MaxNodes + 1, 16, 17, 1 << 32, math.MinInt64, math.MaxInt64} {
		nodes, masses, ok := impl.EvenNodes(n)
		wantNoNumbers(t, plain("the nodes of EvenNodes of ", n), nodes, ok)
		wantNoNumbers(t, plain("the weights of EvenNodes of ", n), masses, ok)
	}
}

func TestMassOf(t *testing.T) {
	cases := []struct {
		p    impl.Poly
		n    int64
		want complex64
	}{
		{polyOf(3), 1, 6}, {polyOf(complex(1, -2)), 1, complex(2, -4)}, {polyOf(minusBoth), 1, 0}, {polyOf(minusBoth), 3, 0}, {polyOf(0), impl.MaxNodes, 0},
		{polyOf(0, 1), 1, 0}, {polyOf(5, 1, 1), 1, 10},
		{polyOf(1), 2, complex(2*afterOne, 0)}, {polyOf(0, 1), 2, 0}, {polyOf(0, 0, 0, complex(0, 1)), 2, 0},
		{polyOf(complex(0, greatest/2)), 1, complex(0, greatest)},
	}
	for _, c := range cases {
		got, ok := impl.MassOf(c.p, c.n)
		wantValue(t, plain("MassOf ", c.p, " and ", c.n), got, ok, c.want)
	}
	for n := int64(1); n <= impl.MaxNodes; n++ {
		for degree := range impl.MaxTerms {
			got, ok := impl.MassOf(power(degree, complex(0.5, -1)), n)
			if !ok || degree%2 == 1 && impl.LongOf(got) > 1e-5 {
				t.Errorf("MassOf the power %d and %d: %v, %v", degree, n, got, ok)
			}
		}
	}
	fails := func(p impl.Poly, n int64) {
		t.Helper()
		got, ok := impl.MassOf(p, n)
		wantNoValue(t, plain("MassOf ", p, " and ", n), got, ok)
	}
	for _, p := range invalidPolys() {
		fails(p, 1)
		fails(p, impl.MaxNodes)
	}
	for _, n := range []int64{0, -1, impl.MaxNodes + 1, 16, 1 << 32, math.MinInt64, math.MaxInt64} {
		fails(polyOf(1), n)
	}
	fails(polyOf(complex(greatest, 0)), 1)
	fails(polyOf(complex(0, greatest)), 5)
	// A value that is not finite at the first node, and at the last one.
	fails(polyOf(complex(greatest, 0), complex(greatest, 0)), 2)
	fails(polyOf(complex(greatest, 0), complex(minusGreat, 0)), 2)
}

func TestExactMass(t *testing.T) {
	third := by(1, 3)
	cases := []struct {
		p    impl.Poly
		want complex64
	}{
		{polyOf(1), 2}, {polyOf(complex(3, -4)), complex(6, -8)}, {polyOf(0), 0}, {polyOf(minusBoth), 0}, {polyOf(0, 1), 0}, {polyOf(5, complex(7, 1)), 10},
		{polyOf(0, 0, 1), complex(2*third, 0)}, {polyOf(0, 0, complex(0, 3)), complex(0, 2)}, {polyOf(1, 0, 3), 4}, {polyOf(2, -8, 0, 4, 5), 6},
		// 0.5 plus 1 - 0.5, and 0.5 less it.
		{polyOf(1, 1, -0.75), 1.5},
		{polyOf(complex(0, least)), complex(0, 2*least)}, {polyOf(complex(greatest/2, 0)), complex(greatest, 0)},
		// The rise of a term that is so small is 0.
		{power(impl.MaxTerms-1, complex(0, least)), 0}, {firstAndLast(1, complex(least, 0)), 2},
	}
	for _, c := range cases {
		got, ok := impl.ExactMass(c.p)
		wantValue(t, plain("ExactMass ", c.p), got, ok, c.want)
	}
	for degree := range impl.MaxTerms - 1 {
		got, ok := impl.ExactMass(power(degree, complex(0, 4)))
		want := complex(0, 8*by(1, float32(degree+1)))
		if degree%2 == 1 {
			want = 0
		}
		wantValue(t, plain("ExactMass of the power ", degree), got, ok, want)
	}
	wrong := append(invalidPolys(), ones(impl.MaxTerms), power(impl.MaxTerms-1, 1), polyOf(complex(greatest, 0)), polyOf(complex(0, minusGreat)))
	// Rises with a value that is not finite at 1, and at -1.
	wrong = append(wrong, polyOf(complex(greatest, 0), complex(greatest, 0)), polyOf(complex(greatest, 0), complex(minusGreat, 0)))
	for _, p := range wrong {
		got, ok := impl.ExactMass(p)
		wantNoValue(t, plain("ExactMass ", p), got, ok)
	}
}

// firstAndLast is a polynomial of the greatest degree with two terms.
func firstAndLast(first, last complex64) impl.Poly {
	p := power(impl.MaxTerms-1, last)
	p.Terms[0] = first
	return p
}
