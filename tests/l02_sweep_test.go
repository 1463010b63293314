package tests

import (
	"math"
	"testing"

	"loop.example/g01358/impl"
)

const polyRounds = 150

// coarse gives one of a few numbers, so that terms cancel, or are zeros with
// signs.
func (s *sweep) coarse() float32 {
	return [8]float32{plusZero, minusZero, 1, -1, 2, -2, 0.5, -3}[s.bits()>>29]
}

// spread gives numbers of many sizes, whose sums lose places.
func (s *sweep) spread() float32 {
	x := s.small()
	return x * float32(math.Ldexp(1, int(s.bits()>>16%61)-30))
}

// below gives an integer from 0 to n - 1.
func (s *sweep) below(n int) int {
	return int(s.bits()>>8) % n
}

func (s *sweep) pairs(draw func() float32, n int) []complex64 {
	list := make([]complex64, n)
	for i := range list {
		list[i] = pairOf(draw)
	}
	return list
}

// polyDraw is what one round of the sweep calls the functions with.
type polyDraw struct {
	a, b, c, d impl.Poly
	x, y       complex64
	near       float32
	list       []complex64
}

func (s *sweep) polys(draw func() float32) polyDraw {
	n := 1 + s.below(impl.MaxTerms)
	a := s.pairs(draw, n)
	b := s.pairs(draw, 1+s.below(impl.MaxTerms+1-n))
	c, d := s.pairs(draw, 1+s.below(4)), s.pairs(draw, 1+s.below(5))
	x := pairOf(draw)
	y := pairOf(draw)
	near := draw()
	return polyDraw{polyOf(a...), polyOf(b...), polyOf(c...), polyOf(d...), x, y, near, s.pairs(draw, s.below(impl.MaxTerms+1))}
}

func (d *digest) success(ok bool) {
	if ok {
		d.add(1)
	} else {
		d.add(0)
	}
}

func (d *digest) list(list []complex64, ok bool) {
	d.success(ok)
	d.add(uint64(len(list)))
	for _, x := range list {
		d.pair(x)
	}
}

func (d *digest) poly(p impl.Poly, ok bool) {
	d.list(p.Terms, ok)
}

func (d *digest) number(x float32, ok bool) {
	d.success(ok)
	d.float(x)
}

func (d *digest) value(x complex64, ok bool) {
	d.success(ok)
	d.pair(x)
}

type polyCase struct {
	name string
	want digest
	call func(d *digest, v polyDraw)
}

// The digests were told by a program that was written apart from this one, in
// another language, from the document alone.
func polyCases() []polyCase {
	return append(productSweeps(), []polyCase{
		{"PolyOf", 0x55184fe90cef3a83, func(d *digest, v polyDraw) { d.poly(impl.PolyOf(v.list)) }},
		{"DegreeOf", 0xf76282fca3a157ec, func(d *digest, v polyDraw) {
			degree, ok := impl.DegreeOf(v.a)
			d.success(ok)
			d.add(uint64(degree))
		}},
		{"ScalePoly", 0x13407873bf5c63d1, func(d *digest, v polyDraw) { d.poly(impl.ScalePoly(v.a, v.x)) }},
		{"StretchPoly", 0x86521055e6f7517c, func(d *digest, v polyDraw) { d.poly(impl.StretchPoly(v.a, v.x)) }},
		{"ShiftPoly", 0xa4ad7e8bc72f72c6, func(d *digest, v polyDraw) { d.poly(impl.ShiftPoly(v.a, v.x)) }},
		{"BackPoly", 0xc573d3b69cb9676f, func(d *digest, v polyDraw) { d.poly(impl.BackPoly(v.a)) }},
		{"EvenPoly", 0x186b0e10074053b4, func(d *digest, v polyDraw) { d.poly(impl.EvenPoly(v.a)) }},
		{"OddPoly", 0x2609ffd5108bcbea, func(d *digest, v polyDraw) { d.poly(impl.OddPoly(v.a)) }},
		{"JoinedPoly", 0xb57af590b157d6b4, func(d *digest, v polyDraw) { d.poly(impl.JoinedPoly(v.a)) }},
		{"SlopePoly", 0x31f0042b340c508e, func(d *digest, v polyDraw) { d.poly(impl.SlopePoly(v.a)) }},
		{"RisePoly", 0x81ce522a87e4221d, func(d *digest, v polyDraw) { d.poly(impl.RisePoly(v.a)) }},
		{"MonicPoly", 0x8b771634fad4b6e2, func(d *digest, v polyDraw) { d.poly(impl.MonicPoly(v.a)) }},
		{"PolyAt", 0x7ecbf632ea7f9671, func(d *digest, v polyDraw) { d.value(impl.PolyAt(v.a, v.x)) }},
		{"BoundAt", 0xe97ab0db64a5af0d, func(d *digest, v polyDraw) { d.number(impl.BoundAt(v.a, v.x)) }},
		{"SlopesAt", 0xa4ad7e8bc72f72c6, func(d *digest, v polyDraw) { d.list(impl.SlopesAt(v.a, v.x)) }},
		{"PolyPoints", 0x8b3d379183aa0d01, func(d *digest, v polyDraw) { d.list(impl.PolyPoints(v.d, v.list)) }},
		{"PointsShared", 0x8b3d379183aa0d01, func(d *digest, v polyDraw) { d.list(impl.PointsShared(v.d, v.list, 3)) }},
		{"PolyOfRoots", 0x6d64825520ca5750, func(d *digest, v polyDraw) { d.poly(impl.PolyOfRoots(v.list)) }},
		{"LongOfPoly", 0xce0d5113eaccc579, func(d *digest, v polyDraw) { d.number(impl.LongOfPoly(v.a)) }},
		{"RootsWithin", 0x3ceda8d272ece9e5, func(d *digest, v polyDraw) { d.number(impl.RootsWithin(v.a)) }},
		{"RootsBeyond", 0x29bd69603f30e65a, func(d *digest, v polyDraw) { d.number(impl.RootsBeyond(v.a)) }},
		{"ThinPoly", 0x498541b2ebe38a5d, func(d *digest, v polyDraw) { d.poly(impl.ThinPoly(v.a, v.near)) }},
	}...)
}

func productSweeps() []polyCase {
	return []polyCase{
		{"AddPolys", 0x721de310e3953f40, func(d *digest, v polyDraw) {
			d.poly(impl.AddPolys(v.a, v.b))
			d.poly(impl.AddPolys(v.c, v.d))
		}},
		{"WeighPolys", 0x5cfda65b649f1d62, func(d *digest, v polyDraw) {
			d.poly(impl.WeighPolys(v.a, v.b, v.x, v.y))
			d.poly(impl.WeighPolys(v.c, v.d, v.x, v.y))
		}},
		{"MulPolys", 0x674aabede64710db, func(d *digest, v polyDraw) {
			d.poly(impl.MulPolys(v.a, v.b))
			d.poly(impl.MulPolys(v.c, v.d))
		}},
		{"MulHalves", 0xdf6eb774e79ec118, func(d *digest, v polyDraw) {
			d.poly(impl.MulHalves(v.a, v.b))
			d.poly(impl.MulHalves(v.c, v.d))
		}},
		{"DivPolys", 0x8f81bdc11d55491b, func(d *digest, v polyDraw) {
			for _, by := range []impl.Poly{v.b, v.d} {
				quotient, rest, ok := impl.DivPolys(v.a, by)
				d.poly(quotient, ok)
				d.poly(rest, ok)
			}
		}},
		{"ComposePolys", 0xa2f3142d1755b15b, func(d *digest, v polyDraw) {
			d.poly(impl.ComposePolys(v.c, v.d))
			d.poly(impl.ComposePolys(v.a, v.d))
		}},
	}
}

func TestPolySweeps(t *testing.T) {
	for _, c := range polyCases() {
		s := &sweep{}
		d := digest(0)
		for range polyRounds {
			for _, draw := range []func() float32{s.small, s.coarse, s.spread, s.any} {
				c.call(&d, s.polys(draw))
			}
		}
		if d != c.want {
			t.Errorf("%s: digest %#x, want %#x", c.name, uint64(d), uint64(c.want))
		}
	}
}
