package tests

import (
	"math"
	"testing"

	"loop.example/g01358/impl"
)

// apart gives numbers none of which is near to another one, each one in a field
// of its own.
func (s *sweep) apart(n int) []complex64 {
	fields := []complex64{}
	for re := range 4 {
		for im := range 4 {
			fields = append(fields, complex(float32(re)-1.5, float32(im)-1.5))
		}
	}
	list := make([]complex64, n)
	for i := range list {
		k := s.below(len(fields))
		list[i] = fields[k] + complex(s.small()/16, s.small()/16)
		fields = append(fields[:k], fields[k+1:]...)
	}
	return list
}

// knownRoots are those of a polynomial, nearly.
type knownRoots struct {
	p     impl.Poly
	roots []complex64
}

func manyKnownRoots() []knownRoots {
	s := &sweep{}
	list := []knownRoots{}
	for range 60 {
		roots := s.apart(1 + s.below(6))
		p, _ := impl.ScalePoly(withRoots(roots...), complex(2+s.small()/4, s.small()))
		list = append(list, knownRoots{p, roots})
	}
	return list
}

const nearRoot = 0.002

// wantRoots checks that numbers are the roots, nearly, each one once.
func (k knownRoots) wantRoots(t *testing.T, what string, got []complex64, ok bool) {
	t.Helper()
	_, far, isMatch := impl.MatchRoots(k.roots, got)
	if !ok || !isMatch || far > nearRoot {
		t.Errorf("%s of %v: got %v, %v, want %v", what, k.p, got, ok, k.roots)
	}
	miss, isMiss := impl.MissOfRoots(k.p, got)
	if !isMiss || miss > 1e-5 {
		t.Errorf("%s of %v: %v miss 0 by %v, %v", what, k.p, got, miss, isMiss)
	}
	again, isPoly := impl.PolyOfRoots(got)
	first, isFirst := impl.MonicPoly(k.p)
	if !isPoly || !isFirst || len(again.Terms) != len(first.Terms) {
		t.Fatalf("%s of %v: %v make no polynomial", what, k.p, got)
	}
	for i, term := range first.Terms {
		wantClose(t, "a term of the polynomial that "+what+" makes again", again.Terms[i], term, 0.02)
	}
}

func TestRootsAreTheRoots(t *testing.T) {
	for _, k := range manyKnownRoots() {
		list, _, ok := impl.AllRoots(k.p, 0.07, 1e-5, impl.MaxTurns)
		k.wantRoots(t, "AllRoots", list, ok)
		list, ok = impl.RootsOneByOne(k.p, 10)
		k.wantRoots(t, "RootsOneByOne", list, ok)
		list, ok = impl.StartRing(k.p, 0.07)
		for range impl.MaxTurns {
			next, isNext := impl.AllOnce(k.p, list)
			if isNext {
				list = next
			}
		}
		k.wantRoots(t, "AllOnce again and again", list, ok)
	}
}

// TestRootsOfUnity has the greatest degree.
func TestRootsOfUnity(t *testing.T) {
	k := knownRoots{polyOf(append([]complex64{-1}, power(16, 1).Terms[1:]...)...), nil}
	for i := range 16 {
		k.roots = append(k.roots, impl.PhasorOf(float64(i)/16))
	}
	list, _, ok := impl.AllRoots(k.p, 0.02, 1e-5, impl.MaxTurns)
	k.wantRoots(t, "AllRoots", list, ok)
	// One by one, the first step is from a slope of 0.
	list, ok = impl.RootsOneByOne(k.p, impl.MaxTurns)
	wantNoList(t, "RootsOneByOne", list, ok)
	k.p = ones(17)
	k.roots = nil
	for i := range 16 {
		k.roots = append(k.roots, impl.PhasorOf(float64(i+1)/17))
	}
	list, _, ok = impl.AllRoots(k.p, 0.02, 1e-5, impl.MaxTurns)
	k.wantRoots(t, "AllRoots", list, ok)
	list, ok = impl.RootsOneByOne(k.p, impl.MaxTurns)
	k.wantRoots(t, "RootsOneByOne", list, ok)
}

// TestStepsLeadToRoots begins near to a root.
func TestStepsLeadToRoots(t *testing.T) {
	for _, k := range manyKnownRoots() {
		for i, root := range k.roots {
			start := root + complex(0.03, -0.02)
			polished, ok := impl.PolishRoot(k.p, start, 5)
			if !ok {
				t.Fatalf("PolishRoot of %v from %v fails", k.p, start)
			}
			wantClose(t, "PolishRoot", polished, root, nearRoot)
			halley, laguerre := start, start
			for range 4 {
				halley, _ = impl.HalleyOnce(k.p, halley)
				laguerre, _ = impl.LaguerreOnce(k.p, laguerre)
			}
			wantClose(t, "HalleyOnce", halley, root, nearRoot)
			wantClose(t, "LaguerreOnce", laguerre, root, nearRoot)
			index, ok := impl.BasinOf(k.p, k.roots, start, 5)
			wantInteger(t, "BasinOf", index, ok, int64(i))
		}
	}
}

func TestAGreatBoxHoldsAllRoots(t *testing.T) {
	for _, k := range manyKnownRoots() {
		reach, _ := impl.RootsWithin(k.p)
		// The middle of it is not near to a root.
		low, high := complex(-reach, -1.0625*reach), complex(1.03125*reach, reach)
		turns, ok := impl.TurnsOfBox(k.p, low, high, impl.MaxTurns)
		if !ok || math.Abs(float64(turns)-float64(len(k.roots))) > 1e-3 {
			t.Errorf("TurnsOfBox of %v: %v, %v", k.p, turns, ok)
		}
		count, ok := impl.RootsOfBox(k.p, low, high, impl.MaxTurns)
		wantInteger(t, plain("the roots of ", k.p), count, ok, int64(len(k.roots)))
		aside, ok := impl.RootsOfBox(k.p, high, high+complex(reach, reach), impl.MaxTurns)
		wantInteger(t, plain("the roots aside of ", k.p), aside, ok, 0)
	}
}

// inBox tells how many numbers are in a box.
func inBox(list []complex64, low, high complex64) int64 {
	count := int64(0)
	for _, z := range list {
		if real(low) < real(z) && real(z) < real(high) && imag(low) < imag(z) && imag(z) < imag(high) {
			count++
		}
	}
	return count
}

func TestBoxesHoldTheirRoots(t *testing.T) {
	for _, k := range manyKnownRoots() {
		low, high := complex64(complex(-2.015, -2.015)), complex64(complex(1.985, 1.985))
		middle := complex64(complex(-0.015, -0.015))
		four, ok := impl.FourBoxes(k.p, low, high, impl.MaxTurns)
		wantIntegers(t, plain("FourBoxes of ", k.p), four, ok,
			inBox(k.roots, low, middle), inBox(k.roots, complex(-0.015, -2.015), complex(1.985, -0.015)),
			inBox(k.roots, complex(-2.015, -0.015), complex(-0.015, 1.985)), inBox(k.roots, middle, high))
		left, right, ok := impl.NarrowBox(k.p, low, high, impl.MaxTurns, 2)
		if !ok || inBox(k.roots, left, right) == 0 {
			t.Errorf("NarrowBox of %v: from %v to %v, %v", k.roots, left, right, ok)
		}
	}
}

func TestDiscsHoldRoots(t *testing.T) {
	for _, k := range manyKnownRoots() {
		moved := make([]complex64, len(k.roots))
		for i, root := range k.roots {
			moved[i] = root + complex(0.015, 0.01)
		}
		radii, ok := impl.DiscsOf(k.p, moved)
		if !ok || len(radii) != len(moved) {
			t.Fatalf("DiscsOf %v: %v, %v", k.p, radii, ok)
		}
		for i, radius := range radii {
			if impl.LongOf(moved[i]-k.roots[i]) > radius+nearRoot {
				t.Errorf("the disc around %v with %v has not the root %v", moved[i], radius, k.roots[i])
			}
		}
		if !impl.DiscsApart(moved, radii) {
			t.Errorf("discs around %v with %v are not apart", moved, radii)
		}
	}
}

func TestSquaresAndRestsFitTogether(t *testing.T) {
	for _, k := range manyKnownRoots() {
		squared, ok := impl.SquaredRoots(k.p)
		if !ok {
			t.Fatalf("SquaredRoots of %v fails", k.p)
		}
		for _, root := range k.roots {
			miss, ok := impl.MissAt(squared, impl.MulComplex(root, root))
			if !ok || miss > 1e-4 {
				t.Errorf("the square of %v misses 0 by %v, %v", root, miss, ok)
			}
			left, rest, ok := impl.LeaveRoot(k.p, root)
			wantClose(t, "the rest", rest, 0, 0.01)
			if !ok || len(left.Terms) != len(k.p.Terms)-1 {
				t.Errorf("LeaveRoot of %v and %v: %v, %v", k.p, root, left, ok)
			}
		}
	}
}

// TestRadiiAreHowFarRootsAre has roots that are not as far as each other.
func TestRadiiAreHowFarRootsAre(t *testing.T) {
	s := &sweep{}
	for range 40 {
		roots, want := []complex64{}, []float32{}
		far := float32(4 + s.below(4))
		for range 1 + s.below(4) {
			roots = append(roots, impl.ScaleComplex(impl.PhasorOf(s.wide()), far))
			want = append(want, far)
			far *= 0.5 - s.small()/40
		}
		got, ok := impl.RadiiOfRoots(withRoots(roots...), 3)
		if !ok || len(got) != len(want) {
			t.Fatalf("RadiiOfRoots of %v: %v, %v", roots, got, ok)
		}
		for i, radius := range got {
			if math.Abs(float64(radius/want[i])-1) > 0.01 {
				t.Errorf("RadiiOfRoots of %v: got %v, want %v", roots, got, want)
			}
		}
	}
}

func TestFollowedRootsAreRoots(t *testing.T) {
	all := manyKnownRoots()
	for _, k := range all {
		// The roots of the other one are all moved by a bit.
		other := make([]complex64, len(k.roots))
		for i, root := range k.roots {
			other[i] = root + impl.MulComplex(root, complex(0.05, 0.1))
		}
		p, q := withRoots(k.roots...), withRoots(other...)
		got, ok := impl.FollowRoots(p, q, k.roots, 16, 4)
		if !ok || len(got) != len(other) {
			t.Fatalf("FollowRoots from %v to %v: %v, %v", k.roots, other, got, ok)
		}
		for i, z := range got {
			wantClose(t, plain("a root from ", k.roots[i]), z, other[i], 2*nearRoot)
		}
	}
}
