package tests

import (
	"math"
	"testing"

	"loop.example/g01358/impl"
)

const valueRounds = 300

// valueDraw is what one round of the sweep calls the functions with.
type valueDraw struct {
	points, values []complex64
	z              complex64
	p              impl.Poly
	kind, n        int64
	x              float32
	weights        []float32
	members        []complex64
	count, nodes   int64
	xs, ys, shares []float32
	degree         int64
	workers        int64
}

// nextTo gives a number that is beside another one, or near to it.
func (s *sweep) nextTo(z complex64) complex64 {
	bits := math.Float32bits(real(z)) + uint32(1+s.below(1<<s.below(12)))
	return complex(math.Float32frombits(bits), imag(z))
}

// points gives numbers some of which are nearly equal.
func (s *sweep) points(draw func() float32) []complex64 {
	points := s.pairs(draw, 1+s.below([2]int{4, impl.MaxTerms}[s.below(2)]))
	for i := range points {
		if s.below(12) == 0 {
			points[i] = s.nextTo(points[s.below(len(points))])
		}
	}
	return points
}

func (s *sweep) numbers(draw func() float32, n int) []float32 {
	list := make([]float32, n)
	for i := range list {
		list[i] = draw()
	}
	return list
}

// placeBy gives a number, a point, or one that is beside a point.
func (s *sweep) placeBy(draw func() float32, points []complex64) complex64 {
	point := points[s.below(len(points))]
	switch s.below(4) {
	case 0:
		return point
	case 1:
		return s.nextTo(point)
	}
	return pairOf(draw)
}

func (s *sweep) valueDraw(draw func() float32) valueDraw {
	v := valueDraw{points: s.points(draw)}
	v.values = s.pairs(draw, len(v.points))
	v.z = s.placeBy(draw, v.points)
	v.p = s.polyOfDegree(draw, s.below(impl.MaxTerms))
	if p, ok := impl.PassingPoly(v.points, v.values); ok && s.below(2) == 0 {
		v.p = p
	}
	v.kind, v.n = int64(s.below(impl.MaxKinds)), int64(s.below(impl.MaxTerms))
	v.x = draw()
	v.weights = s.numbers(draw, 1+s.below(impl.MaxTerms))
	v.members = s.pairs(draw, 1+s.below(impl.MaxTerms))
	v.count, v.nodes = int64(1+s.below(impl.MaxTerms)), int64(1+s.below(impl.MaxNodes))
	many := 1 + s.below(impl.MaxTerms)
	v.xs, v.ys, v.shares = s.numbers(draw, many), s.numbers(draw, many), s.numbers(draw, many)
	for i, share := range v.shares {
		v.shares[i] = float32(math.Abs(float64(share)))
	}
	v.degree, v.workers = int64(s.below(impl.MaxFit+1)), int64(1+s.below(impl.MaxWorkers))
	return v
}

type valueCase struct {
	name string
	want digest
	call func(d *digest, v valueDraw)
}

// The digests were told by a program that was written apart from this one, in
// another language, from the document alone.
func valueCases() []valueCase {
	return []valueCase{
		{"ArePoints", 0x4210b6eda5ed1823, func(d *digest, v valueDraw) { d.success(impl.ArePoints(v.points)) }},
		{"DividedOf", 0x3818af4f39e33c10, func(d *digest, v valueDraw) { d.list(impl.DividedOf(v.points, v.values)) }},
		{"NewtonAt", 0x6d130c9d03a9d2b0, func(d *digest, v valueDraw) { d.value(impl.NewtonAt(v.points, v.values, v.z)) }},
		{"NewtonPoly", 0x5b1e33449963b579, func(d *digest, v valueDraw) { d.poly(impl.NewtonPoly(v.points, v.values)) }},
		{"PassingPoly", 0xdbf014a24eae185, func(d *digest, v valueDraw) { d.poly(impl.PassingPoly(v.points, v.values)) }},
		{"NevilleAt", 0x93eac069903761cd, func(d *digest, v valueDraw) { d.value(impl.NevilleAt(v.points, v.values, v.z)) }},
		{"PointWeights", 0x4cdc3c27a903a1b7, func(d *digest, v valueDraw) { d.list(impl.PointWeights(v.points)) }},
		{"LagrangeAt", 0x5a96ba1d3f24e3a0, func(d *digest, v valueDraw) { d.value(impl.LagrangeAt(v.points, v.values, v.z)) }},
		{"MissOf", 0x52d29631579256e8, func(d *digest, v valueDraw) { d.number(impl.MissOf(v.p, v.points, v.values)) }},
	}
}

func familyCases() []valueCase {
	return []valueCase{
		{"RuleOf", 0xb5612296ce37b6a9, func(d *digest, v valueDraw) {
			a, b, c, ok := impl.RuleOf(v.kind, v.n)
			d.numbers([]float32{a, b, c}, ok)
		}},
		{"FamilyAt", 0x9a4ab57abcf3ac45, func(d *digest, v valueDraw) { d.number(impl.FamilyAt(v.kind, v.n, v.x)) }},
		{"FamilyRow", 0x3d87bc5453a979d3, func(d *digest, v valueDraw) { d.numbers(impl.FamilyRow(v.kind, v.n, v.x)) }},
		{"FamilyPoly", 0xe4e1d4ec2f036aa1, func(d *digest, v valueDraw) { d.poly(impl.FamilyPoly(v.kind, v.n)) }},
		{"FamilySum", 0x461166aa0a8936fc, func(d *digest, v valueDraw) { d.number(impl.FamilySum(v.kind, v.weights, v.x)) }},
		{"FamilyOf", 0xbdb1c301f40dc6ab, func(d *digest, v valueDraw) { d.list(impl.FamilyOf(v.kind, v.p)) }},
		{"PolyOfFamily", 0xa97cffcb8a9474, func(d *digest, v valueDraw) { d.poly(impl.PolyOfFamily(v.kind, v.members)) }},
		{"RoundPoints", 0xfa1c92005c9784c3, func(d *digest, v valueDraw) { d.numbers(impl.RoundPoints(v.count)) }},
		{"RoundFit", 0x55659fec4acf1c5f, func(d *digest, v valueDraw) { d.numbers(impl.RoundFit(v.weights)) }},
		{"EvenNodes", 0x4152fadc8db9f8a9, func(d *digest, v valueDraw) {
			nodes, masses, ok := impl.EvenNodes(v.nodes)
			d.numbers(nodes, ok)
			d.numbers(masses, ok)
		}},
		{"MassOf", 0x16c56e0767c829eb, func(d *digest, v valueDraw) { d.value(impl.MassOf(v.p, v.nodes)) }},
		{"ExactMass", 0x9e54d86202a48e72, func(d *digest, v valueDraw) { d.value(impl.ExactMass(v.p)) }},
		{"FitPoly", 0x12ae1737b9e00a5, func(d *digest, v valueDraw) { d.poly(impl.FitPoly(v.xs, v.ys, v.shares, v.degree)) }},
		{"ValuesShared", 0xf2b86ed730b4e027, func(d *digest, v valueDraw) { d.numbers(impl.ValuesShared(v.kind, v.n, v.xs, v.workers)) }},
	}
}

func TestValueSweeps(t *testing.T) {
	for _, c := range append(valueCases(), familyCases()...) {
		s := &sweep{}
		d := digest(0)
		for range valueRounds {
			for _, draw := range []func() float32{s.small, s.coarse, s.spread, s.any} {
				c.call(&d, s.valueDraw(draw))
			}
		}
		if d != c.want {
			t.Errorf("%s: digest %#x, want %#x", c.name, uint64(d), uint64(c.want))
		}
	}
}
