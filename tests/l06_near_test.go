package tests

import (
	"math"
	"testing"

	"loop.example/g01358/impl"
)

// passes are values at points that are not near to each other.
type passes struct {
	points, values []complex64
}

func manyPasses() []passes {
	s := &sweep{}
	list := []passes{}
	for range 60 {
		n := 1 + s.below(8)
		list = append(list, passes{s.apart(n), s.pairs(s.small, n)})
	}
	return list
}

const nearValue = 0.005

func TestPolynomialsPassTheirValues(t *testing.T) {
	for _, c := range manyPasses() {
		divided, ok := impl.DividedOf(c.points, c.values)
		if !ok {
			t.Fatalf("DividedOf %v and %v fails", c.points, c.values)
		}
		p, ok := impl.PassingPoly(c.points, c.values)
		if !ok || len(p.Terms) > len(c.points) {
			t.Fatalf("PassingPoly of %v and %v: %v, %v", c.points, c.values, p, ok)
		}
		miss, ok := impl.MissOf(p, c.points, c.values)
		if !ok || miss > nearValue {
			t.Errorf("what passes %v at %v misses by %v, %v", c.values, c.points, miss, ok)
		}
		for i, point := range c.points {
			newton, _ := impl.NewtonAt(c.points, divided, point)
			neville, _ := impl.NevilleAt(c.points, c.values, point)
			lagrange, _ := impl.LagrangeAt(c.points, c.values, point)
			wantClose(t, "NewtonAt a point", newton, c.values[i], nearValue)
			wantClose(t, "NevilleAt a point", neville, c.values[i], nearValue)
			wantPair(t, "LagrangeAt a point", lagrange, c.values[i])
		}
	}
}

// TestWaysToAValueAgree tells values beside points, and between them.
func TestWaysToAValueAgree(t *testing.T) {
	s := &sweep{}
	for _, c := range manyPasses() {
		divided, _ := impl.DividedOf(c.points, c.values)
		p, _ := impl.PassingPoly(c.points, c.values)
		places := []complex64{complex(s.small()/3, s.small()/3), 0, c.points[0] + complex(0.125, -0.125), s.nextTo(c.points[0])}
		for _, z := range places {
			want, _ := impl.PolyAt(p, z)
			newton, isNewton := impl.NewtonAt(c.points, divided, z)
			neville, isNeville := impl.NevilleAt(c.points, c.values, z)
			lagrange, isLagrange := impl.LagrangeAt(c.points, c.values, z)
			if !isNewton || !isNeville || !isLagrange {
				t.Errorf("a way to the value at %v fails for %v and %v", z, c.points, c.values)
			}
			wantClose(t, plain("NewtonAt ", z), newton, want, nearValue)
			wantClose(t, plain("NevilleAt ", z), neville, want, nearValue)
			wantClose(t, plain("LagrangeAt ", z), lagrange, want, nearValue)
		}
	}
}

// TestKnownPolynomialsAreFoundAgain makes values of polynomials.
func TestKnownPolynomialsAreFoundAgain(t *testing.T) {
	s := &sweep{}
	for range 60 {
		n := 1 + s.below(6)
		p := polyOf(s.pairs(s.small, n)...)
		points := s.apart(n)
		values, _ := impl.PolyPoints(p, points)
		again, ok := impl.PassingPoly(points, values)
		if !ok || len(again.Terms) != n {
			t.Fatalf("PassingPoly of the values of %v: %v, %v", p, again, ok)
		}
		for k, term := range p.Terms {
			wantClose(t, plain("a term of what passes the values of ", p), again.Terms[k], term, nearValue)
		}
		weights, ok := impl.PointWeights(points)
		sum := complex64(0)
		for i, weight := range weights {
			sum += impl.MulComplex(weight, values[i])
		}
		// The sum of weights times values is the highest divided difference.
		wantClose(t, plain("the highest term of ", p), sum, p.Terms[n-1], nearValue)
		if !ok {
			t.Errorf("PointWeights of %v fails", points)
		}
	}
}

// TestFamiliesKeepTheirRules has rows, polynomials and sums of all kinds.
func TestFamiliesKeepTheirRules(t *testing.T) {
	s := &sweep{}
	for kind := range int64(impl.MaxKinds) {
		for range 20 {
			x := s.small() / 4
			row, _ := impl.FamilyRow(kind, 10, x)
			for n := int64(1); n < 10; n++ {
				a, b, c, ok := impl.RuleOf(kind, n)
				want := float64(a*x+b)*float64(row[n]) - float64(c)*float64(row[n-1])
				if !ok || math.Abs(float64(row[n+1])-want) > 1e-6*(100+math.Abs(want)) {
					t.Errorf("FamilyRow %d at %v is %v, of which %d is not %v", kind, x, row, n+1, want)
				}
			}
			for n, value := range row {
				p, _ := impl.FamilyPoly(kind, int64(n))
				got, _ := impl.PolyAt(p, complex(x, 0))
				wantClose(t, plain("FamilyPoly ", kind, " and ", n, " at ", x), got, complex(value, 0), 1e-4*(10+float32(math.Abs(float64(value)))))
				sum, _ := impl.FamilySum(kind, realParts(power(n, 1).Terms), x)
				wantClose(t, plain("FamilySum ", kind, " and ", n, " at ", x), complex(sum, 0), complex(value, 0), 1e-4*(10+float32(math.Abs(float64(value)))))
			}
		}
	}
}

// TestKindsAreTheKnownOnes tells values in other ways.
func TestKindsAreTheKnownOnes(t *testing.T) {
	for n := range int64(impl.MaxTerms) {
		for _, turns := range []float64{0.02, 0.11, 0.2, 0.26, 0.33, 0.47} {
			angle := 2 * math.Pi * turns
			x := float32(math.Cos(angle))
			cosine, _ := impl.FamilyAt(0, n, x)
			wantClose(t, plain("kind 0 and ", n), complex(cosine, 0), complex(float32(math.Cos(float64(n)*angle)), 0), 1e-4)
			sine, _ := impl.FamilyAt(1, n, x)
			wantClose(t, plain("kind 1 and ", n), complex(sine, 0), complex(float32(math.Sin(float64(n+1)*angle)/math.Sin(angle)), 0), 1e-3)
		}
		for kind := range int64(3) {
			first, _ := impl.FamilyAt(kind, n, 1)
			last, _ := impl.FamilyAt(kind, n, -1)
			want := [3]float32{1, float32(n + 1), 1}[kind]
			wantClose(t, plain("kind ", kind, " and ", n, " at 1"), complex(first, 0), complex(want, 0), 1e-5)
			wantClose(t, plain("kind ", kind, " and ", n, " at -1"), complex(last, 0), complex(want*float32(1-2*(n%2)), 0), 1e-5)
		}
		zero, _ := impl.FamilyAt(4, n, 0)
		wantClose(t, plain("kind 4 and ", n, " at 0"), complex(zero, 0), 1, 1e-5)
		p, _ := impl.FamilyPoly(3, n)
		wantPair(t, plain("the last term of kind 3 and ", n), p.Terms[n], 1)
	}
}

// TestFamiliesAreAtRightAngles has sums over nodes, and over round points.
func TestFamiliesAreAtRightAngles(t *testing.T) {
	for n := int64(1); n <= impl.MaxNodes; n++ {
		nodes, masses, _ := impl.EvenNodes(n)
		points, _ := impl.RoundPoints(n)
		for i := range n {
			for k := range n {
				even, round := 0.0, 0.0
				for j := range n {
					p, _ := impl.FamilyRow(2, n, nodes[j])
					q, _ := impl.FamilyRow(0, n, points[j])
					even += float64(masses[j]) * float64(p[i]) * float64(p[k])
					round += float64(q[i]) * float64(q[k])
				}
				wantEven, wantRound := 0.0, 0.0
				if i == k {
					wantEven, wantRound = 2/float64(2*i+1), float64(n)/2
				}
				if i == k && i == 0 {
					wantRound = float64(n)
				}
				if math.Abs(even-wantEven) > 1e-5 || math.Abs(round-wantRound) > 1e-4 {
					t.Errorf("%d and %d over %d: %v and %v, want %v and %v", i, k, n, even, round, wantEven, wantRound)
				}
			}
		}
	}
}

func TestWeightsMakeTheirPolynomialAgain(t *testing.T) {
	s := &sweep{}
	for kind := range int64(impl.MaxKinds) {
		for range 30 {
			weights := s.pairs(s.small, 1+s.below(6))
			p, ok := impl.PolyOfFamily(kind, weights)
			if !ok || len(p.Terms) != len(weights) {
				t.Fatalf("PolyOfFamily %d and %v: %v, %v", kind, weights, p, ok)
			}
			again, ok := impl.FamilyOf(kind, p)
			if !ok || len(again) != len(weights) {
				t.Fatalf("FamilyOf %d and %v: %v, %v", kind, p, again, ok)
			}
			for k, weight := range weights {
				wantClose(t, plain("a weight of kind ", kind), again[k], weight, 0.001)
			}
			x := s.small() / 2
			sum, isSum := impl.FamilySum(kind, realParts(weights), x)
			value, isValue := impl.PolyAt(p, complex(x, 0))
			if !isSum || !isValue || math.Abs(float64(sum-real(value))) > 0.001 {
				t.Errorf("FamilySum %d and %v at %v: %v, %v, and PolyAt: %v, %v", kind, weights, x, sum, isSum, value, isValue)
			}
		}
	}
}

func TestRoundFitsPassTheirValues(t *testing.T) {
	s := &sweep{}
	for n := 1; n <= impl.MaxTerms; n++ {
		values := s.numbers(s.small, n)
		weights, _ := impl.RoundFit(values)
		points, _ := impl.RoundPoints(int64(n))
		for i, x := range points {
			got, ok := impl.FamilySum(0, weights, x)
			wantClose(t, plain("the value of RoundFit ", i, " of ", n), complex(got, 0), complex(values[i], 0), 1e-4)
			if !ok {
				t.Errorf("FamilySum of %v at %v fails", weights, x)
			}
		}
	}
}

// TestMassesAreExactMasses has degrees below twice the number of nodes, for
// which both are the same, nearly.
func TestMassesAreExactMasses(t *testing.T) {
	s := &sweep{}
	for n := int64(1); n <= impl.MaxNodes; n++ {
		for degree := range min(2*int(n), impl.MaxTerms-1) {
			p := polyOf(s.pairs(s.small, degree+1)...)
			near, isNear := impl.MassOf(p, n)
			exact, isExact := impl.ExactMass(p)
			wantClose(t, plain("MassOf ", p, " and ", n), near, exact, 1e-4)
			want := 0.0
			for k := 0; k <= degree; k += 2 {
				want += float64(real(p.Terms[k])) * 2 / float64(k+1)
			}
			if !isNear || !isExact || math.Abs(float64(real(exact))-want) > 1e-4 {
				t.Errorf("ExactMass %v: %v, want %v", p, exact, want)
			}
		}
		past, _ := impl.MassOf(power(2*int(n), 1), n)
		exact, ok := impl.ExactMass(power(2*int(n), 1))
		if ok && impl.LongOf(past-exact) < 1e-6 {
			t.Errorf("%d nodes are enough for a degree of %d", n, 2*n)
		}
	}
}

// missedBy is the sum of the weights times the squares of what p misses.
func missedBy(p impl.Poly, xs, ys, weights []float32) float64 {
	sum := 0.0
	for i, x := range xs {
		value := 0.0
		for k := len(p.Terms) - 1; k >= 0; k-- {
			value = value*float64(x) + float64(real(p.Terms[k]))
		}
		sum += float64(weights[i]) * (value - float64(ys[i])) * (value - float64(ys[i]))
	}
	return sum
}

func TestFitsMissLeast(t *testing.T) {
	s := &sweep{}
	for range 100 {
		degree := s.below(impl.MaxFit + 1)
		n := impl.MaxTerms - s.below(8)
		xs, ys, weights := s.numbers(s.small, n), s.numbers(s.small, n), s.numbers(s.small, n)
		for i, weight := range weights {
			xs[i] /= 2
			weights[i] = 1 + weight*weight
		}
		p, ok := impl.FitPoly(xs, ys, weights, int64(degree))
		if !ok || len(p.Terms) != degree+1 {
			t.Fatalf("FitPoly %v, %v, %v and %d: %v, %v", xs, ys, weights, degree, p, ok)
		}
		least := missedBy(p, xs, ys, weights)
		for k := range p.Terms {
			for _, change := range []complex64{0.05, -0.05} {
				other := polyOf(append([]complex64{}, p.Terms...)...)
				other.Terms[k] += change
				if missed := missedBy(other, xs, ys, weights); missed <= least {
					t.Errorf("%v misses %v, and %v only %v", p, least, other, missed)
				}
			}
		}
	}
}
