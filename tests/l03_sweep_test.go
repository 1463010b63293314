package tests

import (
	"testing"

	"loop.example/g01358/impl"
)

const wholeRounds = 200

// wholeDraw is what one round of the sweep calls the functions with. The
// wholes with a factor in common are not valid where a product fails.
type wholeDraw struct {
	a, b, ac, bc, square impl.Whole
	terms                []int64
	x, y, n              int64
	prime, power         int64
	g, h, lift           impl.Whole
}

func (s *sweep) wholeDraw(size int64) wholeDraw {
	a, b, c := s.whole(6, size), s.whole(6, size), s.whole(4, size)
	terms := s.terms(20, size)
	x, y, n := s.integer(12), s.integer(1001), int64(s.below(33))
	prime, power := primes()[s.below(6)], int64(s.below(1000001))
	g, h := s.monic(1+s.below(4), prime), s.monic(1+s.below(4), prime)
	lift := s.near(times(g, h), prime, 1000)
	ac, _ := impl.MulWholes(a, c)
	bc, _ := impl.MulWholes(b, c)
	square, _ := impl.MulWholes(ac, c)
	return wholeDraw{a, b, ac, bc, square, terms, x, y, n, prime, power, g, h, lift}
}

func (d *digest) terms(list []int64, ok bool) {
	d.success(ok)
	d.add(uint64(len(list)))
	for _, x := range list {
		d.add(uint64(x))
	}
}

func (d *digest) whole(p impl.Whole, ok bool) {
	d.terms(p.Terms, ok)
}

func (d *digest) two(a, b impl.Whole, ok bool) {
	d.whole(a, ok)
	d.whole(b, ok)
}

func (d *digest) wholes(list []impl.Whole, ok bool) {
	d.success(ok)
	d.add(uint64(len(list)))
	for _, p := range list {
		d.whole(p, true)
	}
}

func (d *digest) integer(n int64, ok bool) {
	d.success(ok)
	d.add(uint64(n))
}

type wholeCase struct {
	name string
	want digest
	call func(d *digest, v wholeDraw)
}

// The digests were told by a program that was written apart from this one, in
// another language, from the document alone.
func wholeCases() []wholeCase {
	return []wholeCase{
		{"WholeFrom", 0xb9c2f1d94c929f32, func(d *digest, v wholeDraw) { d.whole(impl.WholeFrom(v.terms)) }},
		{"AddWholes", 0xeb007838c40dfdd4, func(d *digest, v wholeDraw) { d.whole(impl.AddWholes(v.a, v.ac, v.x, v.y)) }},
		{"MulWholes", 0x82642600bff492ff, func(d *digest, v wholeDraw) {
			d.whole(v.ac, len(v.ac.Terms) > 0)
			d.whole(impl.MulWholes(v.ac, v.bc))
		}},
		{"WholeAt", 0x7504540d19894f87, func(d *digest, v wholeDraw) {
			d.integer(impl.WholeAt(v.a, v.x))
			d.integer(impl.WholeAt(v.a, v.y))
		}},
		{"SlopeWhole", 0x1c3c357ed2f46dbf, func(d *digest, v wholeDraw) { d.whole(impl.SlopeWhole(v.ac)) }},
		{"ContentOf", 0xd51a07343aec1b48, func(d *digest, v wholeDraw) { d.integer(impl.ContentOf(v.ac)) }},
		{"PrimitiveOf", 0xb36cda622d8453db, func(d *digest, v wholeDraw) { d.whole(impl.PrimitiveOf(v.ac)) }},
		{"ExactQuotient", 0x12ad828e67711579, func(d *digest, v wholeDraw) {
			d.whole(impl.ExactQuotient(v.ac, v.a))
			d.whole(impl.ExactQuotient(v.square, v.ac))
			d.whole(impl.ExactQuotient(v.a, v.b))
		}},
		{"CommonWhole", 0xf0b1a7b5815a0558, func(d *digest, v wholeDraw) {
			d.whole(impl.CommonWhole(v.a, v.b))
			d.whole(impl.CommonWhole(v.ac, v.bc))
			d.whole(impl.CommonWhole(v.bc, v.square))
		}},
		{"SquareFree", 0xe3ce71a5cb6be45, func(d *digest, v wholeDraw) {
			d.wholes(impl.SquareFree(v.a))
			d.wholes(impl.SquareFree(v.square))
		}},
		{"ResultantOf", 0x60117d33a7b1d723, func(d *digest, v wholeDraw) { d.integer(impl.ResultantOf(v.a, v.b)) }},
		{"DiscriminantOf", 0xc5db74f63618b347, func(d *digest, v wholeDraw) { d.integer(impl.DiscriminantOf(v.a)) }},
		{"FractionRoots", 0xe5623fe0134747aa, func(d *digest, v wholeDraw) {
			d.terms(impl.FractionRoots(v.a))
			d.terms(impl.FractionRoots(v.ac))
		}},
		{"CyclotomicOf", 0xcc940c6e7f9884fa, func(d *digest, v wholeDraw) { d.whole(impl.CyclotomicOf(v.n)) }},
	}
}

// over returns a whole over a prime, or one that is not valid.
func over(p impl.Whole, prime int64) impl.Whole {
	q, _ := impl.OverPrime(p, prime)
	return q
}

func overCases() []wholeCase {
	return []wholeCase{
		{"OverPrime", 0x92b9bf1125b7b768, func(d *digest, v wholeDraw) { d.whole(impl.OverPrime(v.ac, v.prime)) }},
		{"MulOver", 0xc73bd81317626327, func(d *digest, v wholeDraw) {
			d.whole(impl.MulOver(over(v.a, v.prime), over(v.b, v.prime), v.prime))
			d.whole(impl.MulOver(over(v.ac, v.prime), over(v.square, v.prime), v.prime))
		}},
		{"DivideOver", 0xc5909e6797e87450, func(d *digest, v wholeDraw) {
			d.two(impl.DivideOver(over(v.ac, v.prime), over(v.b, v.prime), v.prime))
			d.two(impl.DivideOver(over(v.square, v.prime), over(v.bc, v.prime), v.prime))
		}},
		{"CommonOver", 0x3617ff684001967b, func(d *digest, v wholeDraw) {
			d.whole(impl.CommonOver(over(v.ac, v.prime), over(v.bc, v.prime), v.prime))
		}},
		{"PowerOver", 0x6340a48e2bccfb8d, func(d *digest, v wholeDraw) {
			d.whole(impl.PowerOver(over(v.a, v.prime), v.power, over(v.b, v.prime), v.prime))
			d.whole(impl.PowerOver(over(v.b, v.prime), v.n, v.lift, v.prime))
			d.whole(impl.PowerOver(over(v.a, v.prime), v.n, over(v.lift, v.prime), v.prime))
		}},
		{"RootsOver", 0x99bbe7e364b52d5b, func(d *digest, v wholeDraw) { d.terms(impl.RootsOver(over(v.ac, v.prime), v.prime)) }},
		{"FactorsOver", 0xc1735fd8dad42927, func(d *digest, v wholeDraw) {
			d.wholes(impl.FactorsOver(over(v.ac, v.prime), v.prime))
			d.wholes(impl.FactorsOver(over(v.lift, v.prime), v.prime))
		}},
		{"FactorsShared", 0x983e549f04be6be0, func(d *digest, v wholeDraw) {
			list, ok := impl.FactorsShared([]impl.Whole{over(v.a, v.prime), v.g, v.h}, v.prime, 1+v.n%8)
			d.success(ok)
			for _, factors := range list {
				d.wholes(factors, true)
			}
		}},
		{"CountPrimes", 0x669dc29a9d540fb0, func(d *digest, v wholeDraw) { d.integer(impl.CountPrimes(v.n%8, v.prime)) }},
		{"LiftPair", 0xfc4b395789e74799, func(d *digest, v wholeDraw) { d.two(impl.LiftPair(v.lift, v.g, v.h, v.prime)) }},
	}
}

func TestWholeSweeps(t *testing.T) {
	for _, c := range append(wholeCases(), overCases()...) {
		s := &sweep{}
		d := digest(0)
		for range wholeRounds {
			for _, size := range []int64{1, 3, 20, 400, great} {
				c.call(&d, s.wholeDraw(size))
			}
		}
		if d != c.want {
			t.Errorf("%s: digest %#x, want %#x", c.name, uint64(d), uint64(c.want))
		}
	}
}
