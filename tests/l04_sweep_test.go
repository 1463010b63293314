package tests

import (
	"testing"

	"loop.example/g01358/impl"
)

const realRounds = 120

// realDraw is what one round of the sweep calls the functions with. The
// polynomials need not be valid.
type realDraw struct {
	a, product, near impl.Real
	roots            []int64
	n, d, high, root int64
	low, shift       int64
	gap              impl.Gap
}

// product gives a polynomial with roots that are fractions, often more than
// once, and perhaps others.
func (s *sweep) product() impl.Real {
	r := realOf(s.terms(3, 3)...)
	for range 1 + s.below(3) {
		n := s.integer(4)
		d := int64(1 + s.below(3))
		r = realTimes(append(repeated(realOf(n, d), 1+s.below(3)), r)...)
	}
	return r
}

// close gives a polynomial with two roots that are near to each other, or one
// that is there twice, or none.
func (s *sweep) close() impl.Real {
	a := int64(2 + s.below(21))
	b := int64(1 + s.below(int(a)))
	r := realTimes(realOf(-1-int64(s.below(2))), realOf(-b, a), realOf(-b, a))
	r.Terms = append(r.Terms, make([]int64, s.below(5))...)
	return realOf(append(r.Terms, s.integer(2), 1)...)
}

func (s *sweep) realDraw(size int64) realDraw {
	a, product, near := realOf(cut(s.terms(impl.MaxReal, size))...), s.product(), s.close()
	roots := s.terms(9, min(size, 40))
	n := s.integer(min(3*size, greatPart))
	d := int64(1 + s.below(int(3*size)))
	high := n + int64(s.below(int(size)))
	root := s.integer(4)
	low := s.integer(50)
	shift := int64(s.below(31))
	end := s.integer(9) << s.below(int(shift+1))
	g := gap(end, end+1+int64(s.below(9))<<s.below(int(shift+1)), shift)
	return realDraw{a, product, near, roots, n, d, high, root, low, shift, g}
}

func (d *digest) real(r impl.Real, ok bool) {
	d.terms(r.Terms, ok)
}

func (d *digest) answer(x, ok bool) {
	d.success(x)
	d.success(ok)
}

func (d *digest) gap(g impl.Gap, ok bool) {
	d.terms([]int64{g.Low, g.High, g.Shift}, ok)
}

func (d *digest) gaps(list []impl.Gap, ok bool) {
	d.success(ok)
	d.add(uint64(len(list)))
	for _, g := range list {
		d.gap(g, true)
	}
}

func (d *digest) numbers(list []float32, ok bool) {
	d.success(ok)
	d.add(uint64(len(list)))
	for _, x := range list {
		d.float(x)
	}
}

type realCase struct {
	name string
	want digest
	call func(d *digest, r impl.Real, v realDraw)
}

// The digests were told by a program that was written apart from this one, in
// another language, from the document alone, and by other ways: it has no
// chains but for ChainOf and ChainSigns.
func realCases() []realCase {
	return []realCase{
		{"SignAt", 0xff42ee9e6ddb9af6, func(d *digest, r impl.Real, v realDraw) { d.integer(impl.SignAt(r, v.n, v.d)) }},
		{"SignChanges", 0x81bf39f2f9fe08f8, func(d *digest, r impl.Real, v realDraw) { d.integer(impl.SignChanges(r)) }},
		{"MirrorReal", 0x54bad11d65b9fba, func(d *digest, r impl.Real, v realDraw) { d.real(impl.MirrorReal(r)) }},
		{"ChangesAt", 0xa2a8cb38d3e04946, func(d *digest, r impl.Real, v realDraw) { d.integer(impl.ChangesAt(r, v.n, v.d)) }},
		{"ChainOf", 0x94e3be3a01b82b03, func(d *digest, r impl.Real, v realDraw) { d.integer(impl.ChainOf(r)) }},
		{"ChainSigns", 0x8c5e380fe663be79, func(d *digest, r impl.Real, v realDraw) {
			d.terms(impl.ChainSigns(r, v.n, v.d))
			d.terms(impl.ChainSigns(r, v.root, 1))
		}},
		{"RootsBetween", 0x93d8722405057240, func(d *digest, r impl.Real, v realDraw) {
			d.integer(impl.RootsBetween(r, v.n, v.high, v.d))
			d.integer(impl.RootsBetween(r, v.root, 4, 1+v.d%3))
		}},
		{"RealRoots", 0xc23ec6ffa00261d6, func(d *digest, r impl.Real, v realDraw) { d.integer(impl.RealRoots(r)) }},
		{"ReachOf", 0x9948512218391e5b, func(d *digest, r impl.Real, v realDraw) { d.integer(impl.ReachOf(r)) }},
		{"IsolateRoots", 0xd0b518ab06bb0244, func(d *digest, r impl.Real, v realDraw) { d.gaps(impl.IsolateRoots(r)) }},
		{"HoldsRoot", 0xe09ccdb46b3590c1, func(d *digest, r impl.Real, v realDraw) { d.answer(impl.HoldsRoot(r, v.gap)) }},
		{"NarrowGap", 0xbb1b2eb46528d8c9, func(d *digest, r impl.Real, v realDraw) {
			d.gap(impl.NarrowGap(r, v.gap, v.shift))
			d.gap(impl.NarrowGap(r, v.gap, impl.MaxShift))
		}},
		{"RootsNear", 0xdc5d23ba3eea7563, func(d *digest, r impl.Real, v realDraw) { d.numbers(impl.RootsNear(r)) }},
		{"RatioRoots", 0xf5b56dfeb699728c, func(d *digest, r impl.Real, v realDraw) { d.terms(impl.RatioRoots(r)) }},
		{"DivideRoot", 0xd9431c1fa354fe8e, func(d *digest, r impl.Real, v realDraw) {
			d.real(impl.DivideRoot(r, v.root, 1))
			d.real(impl.DivideRoot(r, v.root, 1+v.d%3))
		}},
		{"OftenRoot", 0x26806c8c89132012, func(d *digest, r impl.Real, v realDraw) {
			d.integer(impl.OftenRoot(r, v.root, 1))
			d.integer(impl.OftenRoot(r, v.root, 1+v.d%3))
		}},
		{"IsAbove", 0x2767062840a5ace5, func(d *digest, r impl.Real, v realDraw) { d.answer(impl.IsAbove(r)) }},
		{"IsAboveOn", 0x173daa550d3545a9, func(d *digest, r impl.Real, v realDraw) { d.answer(impl.IsAboveOn(r, v.n, v.high, v.d)) }},
		{"LeastOn", 0x634334de870469de, func(d *digest, r impl.Real, v realDraw) {
			place, value, ok := impl.LeastOn(r, v.low, 50)
			d.integer(place, ok)
			d.number(value, ok)
		}},
		{"PolyOfReal", 0x86b07a77e317673d, func(d *digest, r impl.Real, v realDraw) { d.poly(impl.PolyOfReal(r)) }},
	}
}

func otherRealCases() []realCase {
	return []realCase{
		{"RealOfRoots", 0x800ecfbef3849aaf, func(d *digest, r impl.Real, v realDraw) { d.real(impl.RealOfRoots(v.roots)) }},
		{"MiddleOf", 0x4554de7b34e1c922, func(d *digest, r impl.Real, v realDraw) { d.number(impl.MiddleOf(v.gap)) }},
		{"RootsShared", 0x1c50484fe62d8d8a, func(d *digest, r impl.Real, v realDraw) {
			d.terms(impl.RootsShared([]impl.Real{v.near, v.product, v.near, r}, 1+v.d%8))
		}},
	}
}

func TestRealSweeps(t *testing.T) {
	for i, c := range append(realCases(), otherRealCases()...) {
		s := &sweep{}
		d := digest(0)
		for range realRounds {
			for _, size := range []int64{1, 3, 20, greatTerm} {
				v := s.realDraw(size)
				c.call(&d, v.a, v)
				if i < len(realCases()) {
					c.call(&d, v.product, v)
					c.call(&d, v.near, v)
				}
			}
		}
		if d != c.want {
			t.Errorf("%s: digest %#x, want %#x", c.name, uint64(d), uint64(c.want))
		}
	}
}
