package tests

import (
	"math/big"
	"slices"
	"testing"

	"loop.example/g01358/impl"
)

// known is a polynomial with all its different roots, ascending, and how often
// each of them is there.
type known struct {
	r     impl.Real
	roots []place
	often []int64
}

func comparePlaces(a, b place) int {
	return a.rat().Cmp(b.rat())
}

// with puts a root to what is known, as long as the polynomial stays valid.
func (k known) with(root place, often int64) known {
	i, found := slices.BinarySearchFunc(k.roots, root, comparePlaces)
	for range often {
		next := realTimes(k.r, realOf(-root[0], root[1]))
		if !impl.ValidReal(next) {
			break
		}
		if !found {
			k.roots, k.often, found = slices.Insert(slices.Clone(k.roots), i, root), slices.Insert(slices.Clone(k.often), i, 0), true
		}
		k.r = next
		k.often[i]++
	}
	return k
}

// known gives a polynomial with up to 8 roots that are fractions, some of them
// there more than once, and no other ones.
func (s *sweep) known() known {
	others := []impl.Real{realOf(1), realOf(-1), realOf(3), realOf(1, 0, 1), realOf(-2, 1, -1), realOf(1, 0, 0, 0, 1), realOf(1, 1, 2)}
	k := known{r: others[s.below(len(others))]}
	for range s.below(6) {
		n, d := s.integer(7), 1+int64(s.below(5))
		by := max(1, numberIn(max(n, -n), d))
		k = k.with(place{n / by, d / by}, 1+int64(s.below(3)))
	}
	return k
}

// within counts the known roots that are greater than low, and at most high.
func (k known) within(low, high *big.Rat) int64 {
	count := int64(0)
	for _, root := range k.roots {
		if root.rat().Cmp(low) > 0 && root.rat().Cmp(high) <= 0 {
			count++
		}
	}
	return count
}

func (k known) in(g impl.Gap) int64 {
	return k.within(big.NewRat(g.Low, 1<<g.Shift), big.NewRat(g.High, 1<<g.Shift))
}

// gaps is the tests' own halving.
func (k known) gaps(g impl.Gap) []impl.Gap {
	switch k.in(g) {
	case 0:
		return nil
	case 1:
		return []impl.Gap{g}
	}
	middle := g.Low + g.High
	return append(k.gaps(gap(2*g.Low, middle, g.Shift+1)), k.gaps(gap(middle, 2*g.High, g.Shift+1))...)
}

func TestChainsCountTheRoots(t *testing.T) {
	s := &sweep{}
	for range 1000 {
		k := s.known()
		count, ok := impl.RealRoots(k.r)
		wantInteger(t, plain("RealRoots ", k.r), count, ok, int64(len(k.roots)))
		d := []int64{1, 2, 3, 12, 60, 1000, greatPart}[s.below(7)]
		low := s.integer(8 * d)
		high := low + int64(s.below(int(5*d)))
		for _, root := range k.roots {
			// The root itself is at one of the ends, or at both.
			if ends := []int64{root[0] * 12, root[0]*12 + int64(s.below(30))}; s.below(4) == 0 {
				got, ok := impl.RootsBetween(k.r, ends[0], ends[1], root[1]*12)
				wantInteger(t, plain("RootsBetween ", k.r, ends, root[1]*12), got, ok, k.within(root.rat(), big.NewRat(ends[1], root[1]*12)))
				got, ok = impl.RootsBetween(k.r, ends[0]-7, ends[0], root[1]*12)
				wantInteger(t, plain("RootsBetween ", k.r, ends, root[1]*12), got, ok, k.within(big.NewRat(ends[0]-7, root[1]*12), root.rat()))
			}
		}
		if low < -greatPart || high > greatPart {
			continue
		}
		got, ok := impl.RootsBetween(k.r, low, high, d)
		wantInteger(t, plain("RootsBetween ", k.r, low, high, d), got, ok, k.within(big.NewRat(low, d), big.NewRat(high, d)))
	}
}

func TestGapsHaveOneRootEach(t *testing.T) {
	s := &sweep{}
	for range 300 {
		k := s.known()
		reach, _ := impl.ReachOf(k.r)
		gaps, ok := impl.IsolateRoots(k.r)
		wantGaps(t, plain("IsolateRoots ", k.r), gaps, ok, k.gaps(gap(-1<<reach, 1<<reach, 0))...)
		near, ok := impl.RootsNear(k.r)
		if !ok || len(near) != len(gaps) {
			t.Fatalf("RootsNear %v: got %v, %v for %v", k.r, near, ok, gaps)
		}
		for i, g := range gaps {
			holds, ok := impl.HoldsRoot(k.r, g)
			wantAnswer(t, plain("HoldsRoot ", k.r, g), holds, ok, true)
			last, ok := impl.NarrowGap(k.r, g, impl.MaxShift)
			middle, _ := impl.MiddleOf(last)
			if !ok || last.Shift != impl.MaxShift || k.in(last) != 1 {
				t.Errorf("NarrowGap %v %v: got %v, %v", k.r, g, last, ok)
			}
			wantFloat(t, plain("RootsNear ", k.r, i), near[i], middle)
		}
	}
}

// TestNarrowGapsStayAtTheRoot has any gaps, with any number of roots.
func TestNarrowGapsStayAtTheRoot(t *testing.T) {
	s := &sweep{}
	for range 1000 {
		k := s.known()
		shift := int64(s.below(31))
		low := s.integer(9) << s.below(int(shift+1))
		g := gap(low, low+1+int64(s.below(9))<<s.below(int(shift+1)), shift)
		holds, ok := impl.HoldsRoot(k.r, g)
		wantAnswer(t, plain("HoldsRoot ", k.r, g), holds, ok, k.in(g) == 1)
		to := int64(s.below(31))
		got, ok := impl.NarrowGap(k.r, g, to)
		if k.in(g) != 1 {
			wantNoGap(t, plain("NarrowGap ", k.r, g, to), got, ok)
			continue
		}
		want := g
		for want.Shift < to {
			middle := want.Low + want.High
			former, latter := gap(2*want.Low, middle, want.Shift+1), gap(middle, 2*want.High, want.Shift+1)
			if want = latter; k.in(former) == 1 {
				want = former
			}
		}
		wantGap(t, plain("NarrowGap ", k.r, g, to), got, ok, want)
	}
}

func TestRootsAreDividedOut(t *testing.T) {
	s := &sweep{}
	for range 1000 {
		k := s.known()
		want := []int64{}
		for i, root := range k.roots {
			want = append(want, root[0], root[1])
			often, ok := impl.OftenRoot(k.r, root[0], root[1])
			wantInteger(t, plain("OftenRoot ", k.r, root), often, ok, k.often[i])
			left, ok := impl.DivideRoot(k.r, root[0], root[1])
			quotient, _ := impl.ExactQuotient(impl.Whole(k.r), whole(-root[0], root[1]))
			if !impl.ValidReal(impl.Real(quotient)) {
				wantNoReal(t, plain("DivideRoot ", k.r, root), left, ok)
				continue
			}
			if !ok || !impl.SameReal(realTimes(left, realOf(-root[0], root[1])), k.r) {
				t.Errorf("DivideRoot %v %v: got %v, %v", k.r, root, left, ok)
			}
			less, ok := impl.OftenRoot(left, root[0], root[1])
			wantInteger(t, plain("OftenRoot ", left, root), less, ok, k.often[i]-1)
		}
		got, ok := impl.RatioRoots(k.r)
		wantIntegers(t, plain("RatioRoots ", k.r), got, ok, want...)
		if at := (place{s.integer(7), 7}); !slices.Contains(k.roots, at) && at[0]%7 != 0 {
			often, ok := impl.OftenRoot(k.r, at[0], at[1])
			wantInteger(t, plain("OftenRoot ", k.r, at), often, ok, 0)
			left, ok := impl.DivideRoot(k.r, at[0], at[1])
			wantNoReal(t, plain("DivideRoot ", k.r, at), left, ok)
		}
	}
}

func TestAboveIsWithoutRoots(t *testing.T) {
	s := &sweep{}
	for range 1000 {
		k := s.known()
		above, ok := impl.IsAbove(k.r)
		wantAnswer(t, plain("IsAbove ", k.r), above, ok, len(k.roots) == 0 && k.r.Terms[0] > 0)
		d := 1 + int64(s.below(12))
		low := s.integer(8 * d)
		high := low + int64(s.below(20))
		at := big.NewRat(low, d)
		want := signOfReal(k.r, at) > 0 && k.within(at, big.NewRat(high, d)) == 0
		above, ok = impl.IsAboveOn(k.r, low, high, d)
		wantAnswer(t, plain("IsAboveOn ", k.r, low, high, d), above, ok, want)
	}
}

// TestCountsFitTogether has polynomials of which no root is known: counts of
// parts make that of the whole, and changes of signs bound them.
func TestCountsFitTogether(t *testing.T) {
	s := &sweep{}
	for range 1000 {
		r := realOf(cut(s.terms(impl.MaxReal, []int64{2, 20, greatTerm}[s.below(3)]))...)
		if !impl.ValidReal(r) {
			continue
		}
		d := []int64{1, 7, 1000, greatPart}[s.below(4)]
		most := min(2*d, greatPart)
		ends := []int64{s.integer(most), s.integer(most), s.integer(most)}
		slices.Sort(ends)
		former, _ := impl.RootsBetween(r, ends[0], ends[1], d)
		latter, _ := impl.RootsBetween(r, ends[1], ends[2], d)
		both, ok := impl.RootsBetween(r, ends[0], ends[2], d)
		wantInteger(t, plain("RootsBetween ", r, ends, d), both, ok, former+latter)
		low, _ := impl.ChangesAt(r, ends[0], d)
		high, _ := impl.ChangesAt(r, ends[2], d)
		signs, _ := impl.ChainSigns(r, ends[0], d)
		isSimple := len(ratChain(r)[len(signs)-1]) == 1
		if low-high < both || isSimple && (low-high-both)%2 != 0 {
			t.Errorf("the signs of %v change %d and %d times at %v / %d, but %d roots are between", r, low, high, ends, d, both)
		}
		roots, _ := impl.RealRoots(r)
		gaps, ok := impl.IsolateRoots(r)
		if ok && int64(len(gaps)) != roots || roots < both {
			t.Errorf("%v has %d roots, but the gaps %v, and %d roots within %v / %d", r, roots, gaps, both, ends, d)
		}
	}
}
