package tests

import (
	"testing"

	"loop.example/g01358/impl"
)

const rootRounds = 250

// rootDraw is what one round of the sweep calls the functions with.
type rootDraw struct {
	p, q                 impl.Poly
	z, low, high         complex64
	list, others         []complex64
	turn, near           float32
	radii                []float32
	steps, times, most   int64
	side, sides, workers int64
}

// polyOfDegree gives a polynomial of its terms, or of its roots, which can be
// there more than once.
func (s *sweep) polyOfDegree(draw func() float32, d int) impl.Poly {
	if s.below(2) == 0 {
		return polyOf(s.pairs(draw, d+1)...)
	}
	roots := s.pairs(draw, d)
	p, _ := impl.PolyOfRoots(append(roots[:d-d/3:d-d/3], roots[:d/3]...))
	return p
}

// someOf gives as many numbers as a list has, some of which are the same ones.
func (s *sweep) someOf(draw func() float32, list []complex64) []complex64 {
	some := s.pairs(draw, len(list))
	for i := range some {
		if s.below(4) == 0 {
			some[i] = list[s.below(len(list))]
		}
	}
	return some
}

func (s *sweep) rootDraw(draw func() float32) rootDraw {
	d := 1 + s.below([2]int{4, impl.MaxRoots}[s.below(2)])
	v := rootDraw{p: s.polyOfDegree(draw, d), q: s.polyOfDegree(draw, d), z: pairOf(draw), list: s.pairs(draw, d)}
	v.others = s.someOf(draw, v.list)
	v.turn, v.near = draw(), draw()
	for range d {
		v.radii = append(v.radii, draw()/4)
	}
	a, b := pairOf(draw), pairOf(draw)
	v.low = complex(min(real(a), real(b)), min(imag(a), imag(b)))
	v.high = complex(max(real(a), real(b)), max(imag(a), imag(b)))
	v.steps, v.times, v.most = int64(1+s.below(5)), int64(s.below(7)), int64(1+s.below(20))
	v.side, v.sides, v.workers = int64(2+s.below(4)), int64(4+s.below(13)), int64(1+s.below(8))
	return v
}

func (d *digest) integers(list []int64, ok bool) {
	d.terms(list, ok)
}

type rootCase struct {
	name string
	want digest
	call func(d *digest, v rootDraw)
}

// The digests were told by a program that was written apart from this one, in
// another language, from the document alone.
func rootCases() []rootCase {
	return []rootCase{
		{"SlopeOnce", 0x528f9dffb1135353, func(d *digest, v rootDraw) { d.value(impl.SlopeOnce(v.p, v.z)) }},
		{"HalleyOnce", 0xcd721ce124a29f03, func(d *digest, v rootDraw) { d.value(impl.HalleyOnce(v.p, v.z)) }},
		{"LaguerreOnce", 0xa39a08ba7e6507a2, func(d *digest, v rootDraw) { d.value(impl.LaguerreOnce(v.p, v.z)) }},
		{"PolishRoot", 0x8627a6dee8e52f3e, func(d *digest, v rootDraw) { d.value(impl.PolishRoot(v.p, v.z, v.times)) }},
		{"MissAt", 0xae7f493744c09b4d, func(d *digest, v rootDraw) { d.number(impl.MissAt(v.p, v.z)) }},
		{"MissOfRoots", 0xf54d3cdc9dbae448, func(d *digest, v rootDraw) { d.number(impl.MissOfRoots(v.p, v.list)) }},
		{"StartRing", 0xab6234048d77cf1a, func(d *digest, v rootDraw) { d.list(impl.StartRing(v.p, v.turn)) }},
		{"AllOnce", 0x159110ec17a79f33, func(d *digest, v rootDraw) {
			d.list(impl.AllOnce(v.p, v.list))
			d.list(impl.AllOnce(v.p, v.others))
		}},
		{"AberthOnce", 0x1b29e8fa0280fabc, func(d *digest, v rootDraw) {
			d.list(impl.AberthOnce(v.p, v.list))
			d.list(impl.AberthOnce(v.p, v.others))
		}},
		{"AllRoots", 0xef6fa03cd6de2ade, func(d *digest, v rootDraw) {
			list, times, ok := impl.AllRoots(v.p, v.turn, v.near, v.most)
			d.list(list, ok)
			d.integer(times, ok)
		}},
		{"DiscsOf", 0x40b178ca56e2c209, func(d *digest, v rootDraw) { d.numbers(impl.DiscsOf(v.p, v.list)) }},
		{"DiscsApart", 0x57f9b16fa9e7163f, func(d *digest, v rootDraw) { d.success(impl.DiscsApart(v.list, v.radii)) }},
		{"TurnsOfBox", 0x61ec0bfa993022db, func(d *digest, v rootDraw) { d.number(impl.TurnsOfBox(v.p, v.low, v.high, v.sides)) }},
		{"RootsOfBox", 0x60df560e29160b3e, func(d *digest, v rootDraw) { d.integer(impl.RootsOfBox(v.p, v.low, v.high, v.sides)) }},
		{"FourBoxes", 0x271e4f34f965f3, func(d *digest, v rootDraw) { d.integers(impl.FourBoxes(v.p, v.low, v.high, v.sides)) }},
		{"NarrowBox", 0x7cb3ae74d65cca11, func(d *digest, v rootDraw) {
			low, high, ok := impl.NarrowBox(v.p, v.low, v.high, v.sides, v.times)
			d.value(low, ok)
			d.value(high, ok)
		}},
	}
}

func otherRootCases() []rootCase {
	return []rootCase{
		{"SquaredRoots", 0xbd100a765c2588eb, func(d *digest, v rootDraw) { d.poly(impl.SquaredRoots(v.p)) }},
		{"RadiiOfRoots", 0xc32f7a0230778fec, func(d *digest, v rootDraw) { d.numbers(impl.RadiiOfRoots(v.p, v.times)) }},
		{"LeaveRoot", 0xc8873a61bd202241, func(d *digest, v rootDraw) {
			quotient, rest, ok := impl.LeaveRoot(v.p, v.z)
			d.poly(quotient, ok)
			d.value(rest, ok)
		}},
		{"RootsOneByOne", 0xfb629dc4615c1ceb, func(d *digest, v rootDraw) { d.list(impl.RootsOneByOne(v.p, v.most)) }},
		{"OrderRoots", 0x83ea4853ea3c10b, func(d *digest, v rootDraw) { d.list(impl.OrderRoots(v.list)) }},
		{"MatchRoots", 0x99629bee00339688, func(d *digest, v rootDraw) {
			matches, far, ok := impl.MatchRoots(v.list, v.others)
			d.integers(matches, ok)
			d.number(far, ok)
		}},
		{"ClustersOfRoots", 0x445be8411e629573, func(d *digest, v rootDraw) { d.integers(impl.ClustersOfRoots(v.others, v.near)) }},
		{"FollowRoots", 0x74d55db89544c3b7, func(d *digest, v rootDraw) { d.list(impl.FollowRoots(v.p, v.q, v.list, v.steps, v.times)) }},
		{"BasinOf", 0x9ca8c7627556b56a, func(d *digest, v rootDraw) { d.integer(impl.BasinOf(v.p, v.others, v.z, v.times)) }},
		{"BasinGrid", 0x43dea2bb19c46ce9, func(d *digest, v rootDraw) {
			d.integers(impl.BasinGrid(v.p, v.list, v.low, v.high, v.side, v.times, v.workers))
		}},
	}
}

func TestRootSweeps(t *testing.T) {
	for _, c := range append(rootCases(), otherRootCases()...) {
		s := &sweep{}
		d := digest(0)
		for range rootRounds {
			for _, draw := range []func() float32{s.small, s.coarse, s.spread, s.any} {
				c.call(&d, s.rootDraw(draw))
			}
		}
		if d != c.want {
			t.Errorf("%s: digest %#x, want %#x", c.name, uint64(d), uint64(c.want))
		}
	}
}
