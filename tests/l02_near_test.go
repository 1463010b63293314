package tests

import (
	"math/cmplx"
	"testing"

	"loop.example/g01358/impl"
)

// wideAt is the value of a polynomial, told with 64-bit numbers.
func wideAt(p impl.Poly, z complex64) complex128 {
	value := complex128(0)
	for k := len(p.Terms) - 1; k >= 0; k-- {
		value = value*complex128(z) + complex128(p.Terms[k])
	}
	return value
}

// sizeAt is how great the values of a polynomial can be at as far from 0.
func sizeAt(p impl.Poly, z complex64) float64 {
	size, far := 0.0, cmplx.Abs(complex128(z))
	for k := len(p.Terms) - 1; k >= 0; k-- {
		size = size*far + cmplx.Abs(complex128(p.Terms[k]))
	}
	return size
}

func wantNear(t *testing.T, what string, got, want complex128, size float64) {
	t.Helper()
	const places = 0x1p-17
	if !(cmplx.Abs(got-want) <= size*places) {
		t.Errorf("%s: got %v, want %v, nearly", what, got, want)
	}
}

// gauss gives a complex number of integers from -3 to 3.
func (s *sweep) gauss() complex64 {
	re := float32(s.below(7) - 3)
	return complex(re, float32(s.below(7)-3))
}

func (s *sweep) gaussPoly(most int) impl.Poly {
	terms := make([]complex64, 1+s.below(most))
	for k := range terms {
		terms[k] = s.gauss()
	}
	p, _ := impl.PolyOf(terms)
	return p
}

func (s *sweep) smallPoly(most int) impl.Poly {
	return polyOf(s.pairs(func() float32 { return s.small() / 4 }, 1+s.below(most))...)
}

// valueOf is PolyAt, which must not fail.
func valueOf(t *testing.T, p impl.Poly, z complex64) complex64 {
	t.Helper()
	value, ok := impl.PolyAt(p, z)
	if !ok {
		t.Fatalf("PolyAt %v of %v fails", z, p)
	}
	return value
}

// TestValuesOfIntegers has numbers that are never rounded, so that values fit
// together exactly.
func TestValuesOfIntegers(t *testing.T) {
	s := &sweep{}
	for range 500 {
		a, b, z, w := s.gaussPoly(4), s.gaussPoly(3), s.gauss(), s.gauss()
		at, bt := valueOf(t, a, z), valueOf(t, b, z)
		sum, _ := impl.AddPolys(a, b)
		weighed, _ := impl.WeighPolys(a, b, z, w)
		product, _ := impl.MulPolys(a, b)
		halves, _ := impl.MulHalves(a, b)
		composed, _ := impl.ComposePolys(a, b)
		shifted, _ := impl.ShiftPoly(a, w)
		stretched, _ := impl.StretchPoly(a, w)
		scaled, _ := impl.ScalePoly(a, w)
		cases := []struct {
			what      string
			got, want complex64
		}{
			{"the sum", valueOf(t, sum, z), at + bt},
			{"the weighed sum", valueOf(t, weighed, z), impl.MulComplex(at, z) + impl.MulComplex(bt, w)},
			{"the product", valueOf(t, product, z), impl.MulComplex(at, bt)},
			{"the product by halves", valueOf(t, halves, z), impl.MulComplex(at, bt)},
			{"the composition", valueOf(t, composed, z), valueOf(t, a, bt)},
			{"the moved one", valueOf(t, shifted, z), valueOf(t, a, z+w)},
			{"the stretched one", valueOf(t, stretched, z), valueOf(t, a, impl.MulComplex(z, w))},
			{"the scaled one", valueOf(t, scaled, z), impl.MulComplex(at, w)},
		}
		for _, c := range cases {
			if c.got != c.want {
				t.Errorf("%v and %v: the value of %s at %v is %v, not %v", a, b, c.what, z, c.got, c.want)
			}
		}
	}
}

func TestValuesNearly(t *testing.T) {
	s := &sweep{}
	for range 500 {
		a, b, z := s.smallPoly(9), s.smallPoly(9), complex(s.small()/4, s.small()/4)
		at, bt := wideAt(a, z), wideAt(b, z)
		aSize, bSize := sizeAt(a, z), sizeAt(b, z)
		sum, _ := impl.AddPolys(a, b)
		wantNear(t, "the value of a sum", complex128(valueOf(t, sum, z)), at+bt, aSize+bSize)
		product, _ := impl.MulPolys(a, b)
		wantNear(t, "the value of a product", complex128(valueOf(t, product, z)), at*bt, aSize*bSize)
		halves, _ := impl.MulHalves(a, b)
		wantNear(t, "the value of a product by halves", complex128(valueOf(t, halves, z)), at*bt, 64*(1+aSize)*(1+bSize))
		inner := polyOf(b.Terms[0], 1)
		composed, _ := impl.ComposePolys(a, inner)
		moved := complex64(wideAt(inner, z))
		size := sizeAt(a, complex(float32(sizeAt(inner, z)), 0))
		wantNear(t, "the value of a composition", complex128(valueOf(t, composed, z)), wideAt(a, moved), size)
		shifted, _ := impl.ShiftPoly(a, b.Terms[0])
		wantNear(t, "the value of a moved one", complex128(valueOf(t, shifted, z)), wideAt(a, moved), size)
	}
}

func TestQuotientsNearly(t *testing.T) {
	s := &sweep{}
	for range 500 {
		a, b, z := s.smallPoly(9), s.smallPoly(5), complex(s.small()/4, s.small()/4)
		b.Terms[len(b.Terms)-1] = complex(1, s.small()/4)
		quotient, rest, ok := impl.DivPolys(a, b)
		if !ok || len(rest.Terms) >= len(b.Terms) && len(b.Terms) > 1 {
			t.Fatalf("%v by %v: %v and %v, %v", a, b, quotient, rest, ok)
		}
		back := wideAt(quotient, z)*wideAt(b, z) + wideAt(rest, z)
		size := sizeAt(a, z) + sizeAt(quotient, z)*sizeAt(b, z) + sizeAt(rest, z)
		wantNear(t, "the value of the quotient times b, plus the rest", back, wideAt(a, z), size)
	}
}

func TestBoundsHold(t *testing.T) {
	s := &sweep{}
	for range 2000 {
		p, z := s.smallPoly(impl.MaxTerms), complex(s.small()/3, s.small()/3)
		bound, ok := impl.BoundAt(p, z)
		miss := cmplx.Abs(complex128(valueOf(t, p, z)) - wideAt(p, z))
		if !ok || !(miss <= float64(bound)) {
			t.Errorf("PolyAt %v of %v misses the value by %g, with the bound %g, %v", z, p, miss, bound, ok)
		}
	}
}

func TestSlopesNearly(t *testing.T) {
	s := &sweep{}
	for range 500 {
		p, z := s.smallPoly(impl.MaxTerms-1), complex(s.small()/4, s.small()/4)
		slopes, ok := impl.SlopesAt(p, z)
		if !ok || len(slopes) != len(p.Terms) {
			t.Fatalf("SlopesAt %v of %v: %v, %v", z, p, slopes, ok)
		}
		wantPair(t, "the first of the slopes", slopes[0], valueOf(t, p, z))
		divisor, slope := 1.0, p
		for k, got := range slopes {
			wantNear(t, "a slope", complex128(got), wideAt(slope, z)/complex(divisor, 0), 64*sizeAt(slope, z)/divisor)
			slope, _ = impl.SlopePoly(slope)
			divisor *= float64(k + 1)
		}
		risen, _ := impl.RisePoly(p)
		back, _ := impl.SlopePoly(risen)
		wantNear(t, "the value of the slope of what rises", wideAt(back, z), wideAt(p, z), sizeAt(p, z))
	}
}

func TestRadiiHoldRoots(t *testing.T) {
	s := &sweep{}
	for range 500 {
		roots := s.pairs(func() float32 { return s.small() / 4 }, 1+s.below(8))
		p, _ := impl.PolyOfRoots(roots)
		within, one := impl.RootsWithin(p)
		beyond, two := impl.RootsBeyond(p)
		for _, root := range roots {
			far := cmplx.Abs(complex128(root))
			if !one || !two || far > float64(within) || far < float64(beyond) {
				t.Errorf("the root %v of %v is not between %g and %g", root, p, beyond, within)
			}
			wantNear(t, "the value at a root", wideAt(p, root), 0, sizeAt(p, root))
		}
		monic, ok := impl.MonicPoly(p)
		wantPoly(t, "MonicPoly of what is monic", monic, ok, p.Terms...)
	}
}
