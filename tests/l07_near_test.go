package tests

import (
	"slices"
	"testing"

	"loop.example/g01358/impl"
)

const nearTerm = 0.001

// calm gives a series whose terms behind the first one are small, so that what
// is made of it stays small, too.
func (s *sweep) calm(first complex64, n int) []complex64 {
	a := []complex64{first}
	for len(a) < n {
		a = append(a, complex(s.small()/16, s.small()/16))
	}
	return a
}

// manyCalm have all lengths.
func manyCalm(first complex64) [][]complex64 {
	s := &sweep{}
	list := [][]complex64{}
	for n := 1; n <= impl.MaxSeries; n++ {
		for range 10 {
			list = append(list, s.calm(first, n))
		}
	}
	return list
}

func wantCloseList(t *testing.T, what string, got []complex64, ok bool, want []complex64, far float32) {
	t.Helper()
	if !ok || len(got) != len(want) {
		t.Fatalf("%s: got %v, %v, want %v", what, got, ok, want)
	}
	for k, term := range want {
		wantClose(t, plain(what, ", the term ", k), got[k], term, far)
	}
}

func TestQuotientsUndoProducts(t *testing.T) {
	s := &sweep{}
	for _, a := range manyCalm(complex(1, -0.5)) {
		b := s.calm(complex(0.75, 1), len(a))
		inverse, ok := impl.InverseSeries(a)
		if !ok {
			t.Fatalf("InverseSeries of %v fails", a)
		}
		one, ok := impl.MulSeries(a, inverse)
		wantCloseList(t, plain("the product of ", a, " and its inverse"), one, ok, filled(len(a), 1), nearTerm)
		again, ok := impl.InverseSeries(inverse)
		wantCloseList(t, plain("the inverse of the inverse of ", a), again, ok, a, nearTerm)
		product, _ := impl.MulSeries(b, a)
		again, ok = impl.DivSeries(product, a)
		wantCloseList(t, plain("the product of ", b, " and ", a, " divided by the latter"), again, ok, b, nearTerm)
	}
}

func TestSlopesUndoRises(t *testing.T) {
	for _, a := range manyCalm(complex(2, 3)) {
		rise, _ := impl.RiseSeries(a)
		slope, ok := impl.SlopeSeries(rise)
		wantCloseList(t, plain("the slope of the rise of ", a), slope, ok, append(append([]complex64{}, a[:len(a)-1]...), 0), nearTerm)
		slope, _ = impl.SlopeSeries(a)
		rise, ok = impl.RiseSeries(slope)
		wantCloseList(t, plain("the rise of the slope of ", a), rise, ok, append([]complex64{0}, a[1:]...), nearTerm)
	}
}

func TestLogarithmsUndoExponents(t *testing.T) {
	for _, a := range manyCalm(0) {
		exp, _ := impl.ExpSeries(a)
		log, ok := impl.LogSeries(exp)
		wantCloseList(t, plain("the logarithm of the exponent of ", a), log, ok, a, nearTerm)
	}
	for _, a := range manyCalm(1) {
		log, _ := impl.LogSeries(a)
		exp, ok := impl.ExpSeries(log)
		wantCloseList(t, plain("the exponent of the logarithm of ", a), exp, ok, a, nearTerm)
	}
}

// TestPowersUndoOneAnother has roots, and powers that are products, too.
func TestPowersUndoOneAnother(t *testing.T) {
	for _, a := range manyCalm(1) {
		root, ok := impl.RootSeries(a)
		half, isHalf := impl.PowerSeries(a, 0.5)
		wantCloseList(t, plain("the root of ", a), root, ok && isHalf, half, nearTerm)
		square, ok := impl.MulSeries(root, root)
		wantCloseList(t, plain("the square of the root of ", a), square, ok, a, nearTerm)
		product, _ := impl.MulSeries(a, a)
		root, ok = impl.RootSeries(product)
		wantCloseList(t, plain("the root of the square of ", a), root, ok, a, nearTerm)
		square, ok = impl.PowerSeries(a, 2)
		wantCloseList(t, plain("the power 2 of ", a), square, ok, product, nearTerm)
		below, ok := impl.PowerSeries(a, -1)
		inverse, _ := impl.InverseSeries(a)
		wantCloseList(t, plain("the power -1 of ", a), below, ok, inverse, nearTerm)
		turned, _ := impl.PowerSeries(a, complex(0, 2))
		again, ok := impl.PowerSeries(turned, complex(0, -0.5))
		wantCloseList(t, plain("the power -i/2 of the power 2 i of ", a), again, ok, a, nearTerm)
	}
}

func TestTurnsUndoSeries(t *testing.T) {
	s := &sweep{}
	for n := 2; n <= impl.MaxSeries; n++ {
		for range 10 {
			a := s.calm(0, n)
			a[1] = complex(1.5, -0.5)
			turned, ok := impl.TurnSeries(a)
			if !ok {
				t.Fatalf("TurnSeries of %v fails", a)
			}
			x, ok := impl.ComposeSeries(a, turned)
			wantCloseList(t, plain("ComposeSeries of ", a, " and what leads back"), x, ok, filled(n, 0, 1), nearTerm)
			x, ok = impl.ComposeSeries(turned, a)
			wantCloseList(t, plain("ComposeSeries of what leads back, and ", a), x, ok, filled(n, 0, 1), nearTerm)
			again, ok := impl.TurnSeries(turned)
			wantCloseList(t, plain("TurnSeries of TurnSeries of ", a), again, ok, a, nearTerm)
		}
	}
}

// TestValuesOfSeries has values near to 0, where what is left out does not
// matter.
func TestValuesOfSeries(t *testing.T) {
	s := &sweep{}
	for range 100 {
		a, b, z := s.calm(1, impl.MaxSeries), s.calm(0, impl.MaxSeries), complex(s.small()/16, s.small()/16)
		product, _ := impl.MulSeries(a, b)
		composed, _ := impl.ComposeSeries(a, b)
		exp, _ := impl.ExpSeries(b)
		atA, _ := impl.SeriesAt(a, z)
		atB, _ := impl.SeriesAt(b, z)
		atProduct, _ := impl.SeriesAt(product, z)
		wantClose(t, plain("the value of a product at ", z), atProduct, impl.MulComplex(atA, atB), nearTerm)
		outer, _ := impl.SeriesAt(a, atB)
		atComposed, _ := impl.SeriesAt(composed, z)
		wantClose(t, plain("the value of ComposeSeries at ", z), atComposed, outer, nearTerm)
		atExp, _ := impl.SeriesAt(exp, z)
		size := impl.ExpNumber(real(atB))
		turns := float64(imag(atB)) / 6.283185307179586
		wantClose(t, plain("the value of ExpSeries at ", z), atExp, impl.ScaleComplex(impl.PhasorOf(turns), size), nearTerm)
	}
}

func TestQuotientsFitSeries(t *testing.T) {
	s := &sweep{}
	told := 0
	for range 300 {
		a := s.calm(1, impl.MaxSeries)
		above, below := int64(s.below(5)), int64(s.below(3))
		p, q, ok := impl.FitQuotient(a, above, below)
		if !ok || int64(len(p.Terms)) > above+1 || int64(len(q.Terms)) > below+1 || q.Terms[0] != 1 {
			t.Fatalf("FitQuotient %v, %d and %d: %v, %v, %v", a, above, below, p, q, ok)
		}
		if impl.LongOf(q.Terms[len(q.Terms)-1]) > 4 {
			// Rows that can nearly not be solved tell less.
			continue
		}
		told++
		count := above + below + 1
		again, ok := impl.SeriesOfQuotient(p, q, count)
		wantCloseList(t, plain("the series of what fits ", a), again, ok, a[:count], nearTerm)
		z := complex(s.small()/256, s.small()/256)
		value, ok := impl.QuotientAt(p, q, z)
		want, _ := impl.SeriesAt(again, z)
		wantClose(t, plain("the value of what fits ", a), value, want, 0.01)
		if !ok {
			t.Errorf("QuotientAt %v, %v and %v fails", p, q, z)
		}
	}
	if told < 200 {
		t.Errorf("only %d quotients have been told", told)
	}
}

// TestKnownQuotientsAreFoundAgain has 1 + x and so on by others of two degrees.
func TestKnownQuotientsAreFoundAgain(t *testing.T) {
	p, q := []complex64{1, 1}, []complex64{1, -1, -1}
	a, _ := impl.SeriesOfQuotient(polyOf(p...), polyOf(q...), 6)
	above, below, ok := impl.FitQuotient(a, 1, 2)
	wantCloseList(t, "p", above.Terms, ok, p, nearTerm)
	wantCloseList(t, "q", below.Terms, ok, q, nearTerm)
	// The exponent, by quotients that are known.
	above, below, ok = impl.FitQuotient(shares(5), 2, 2)
	wantCloseList(t, "p of the exponent", above.Terms, ok, []complex64{1, 0.5, complex(by(1, 12), 0)}, 1e-5)
	wantCloseList(t, "q of the exponent", below.Terms, ok, []complex64{1, -0.5, complex(by(1, 12), 0)}, 1e-5)
	for n := int64(3); n <= 4; n++ {
		binomials := []complex64{1, -4, 6, -4, 1}
		list := []complex64{1, 4, 10, 20, 35}
		if n == 3 {
			binomials, list = []complex64{1, -3, 3, -1}, []complex64{1, 3, 6, 10, 15}
		}
		above, below, ok = impl.FitQuotient(list, 0, n)
		wantCloseList(t, plain("p of the power ", n), above.Terms, ok, []complex64{1}, 1e-5)
		wantCloseList(t, plain("q of the power ", n), below.Terms, ok, binomials, 1e-4)
	}
}

func TestPartsMakeTheirQuotient(t *testing.T) {
	s := &sweep{}
	for range 100 {
		n := 1 + s.below(7)
		roots := s.apart(n)
		p := polyOf(s.pairs(s.small, 1+s.below(n))...)
		parts, ok := impl.PartsOf(p, roots)
		if !ok || len(parts) != n {
			t.Fatalf("PartsOf %v and %v: %v, %v", p, roots, parts, ok)
		}
		z := complex(s.small()+9, s.small())
		got, ok := impl.PartsAt(parts, roots, z)
		want, _ := impl.QuotientAt(p, withRoots(roots...), z)
		wantClose(t, plain("PartsAt ", parts, ", ", roots, " and ", z), got, want, nearTerm)
		if !ok {
			t.Errorf("PartsAt %v fails", z)
		}
	}
}

// keeps reports whether a list keeps a rule.
func keeps(list, rule []int64, prime int64) bool {
	for k := len(rule); k < len(list); k++ {
		sum := int64(0)
		for i, x := range rule {
			sum += x * list[k-1-i]
		}
		if sum%prime != list[k] {
			return false
		}
	}
	return true
}

// allLists are all lists of n numbers over a prime.
func allLists(n int, prime int64) [][]int64 {
	lists := [][]int64{nil}
	for range n {
		longer := [][]int64{}
		for _, list := range lists {
			for x := range prime {
				longer = append(longer, append(slices.Clone(list), x))
			}
		}
		lists = longer
	}
	return lists
}

// TestNoRuleIsShorter has all lists of some lengths, and all shorter rules.
func TestNoRuleIsShorter(t *testing.T) {
	for _, c := range []struct {
		prime int64
		most  int
	}{{2, 9}, {3, 6}, {5, 4}} {
		for n := 1; n <= c.most; n++ {
			for _, list := range allLists(n, c.prime) {
				rule, ok := impl.RuleOver(list, c.prime)
				if !ok || !keeps(list, rule, c.prime) {
					t.Fatalf("RuleOver %v and %d: %v, %v", list, c.prime, rule, ok)
				}
				if len(rule) > 0 && slices.ContainsFunc(allLists(len(rule)-1, c.prime), func(other []int64) bool { return keeps(list, other, c.prime) }) {
					t.Errorf("RuleOver %v and %d: %v, but there is a shorter one", list, c.prime, rule)
				}
			}
		}
	}
}

func TestRulesMakeTheirListsAgain(t *testing.T) {
	s := &sweep{}
	for range 3000 {
		prime := primes()[s.below(6)]
		list := s.listOver(prime, 1+s.below(impl.MaxRule))
		rule, ok := impl.RuleOver(list, prime)
		if !ok || len(rule) > len(list) {
			t.Fatalf("RuleOver %v and %d: %v, %v", list, prime, rule, ok)
		}
		again, ok := impl.FollowRule(rule, list[:len(rule)], prime, int64(len(list)))
		wantIntegers(t, plain("FollowRule ", rule, " that was found"), again, ok, list...)
	}
}

// TestKnownRulesAreFound has twice as many numbers as a rule, by which there is
// no other one as short.
func TestKnownRulesAreFound(t *testing.T) {
	s := &sweep{}
	for range 1000 {
		prime := primes()[s.below(6)]
		r := 1 + s.below(impl.MaxRule/2)
		known, first := make([]int64, r), lastOnly(r, 1)
		for i := range known {
			known[i] = int64(s.below(int(prime)))
		}
		known[r-1] = 1 + int64(s.below(int(prime-1)))
		list, _ := impl.FollowRule(known, first, prime, int64(2*r))
		rule, ok := impl.RuleOver(list, prime)
		wantIntegers(t, plain("RuleOver a list of ", known, " over ", prime), rule, ok, known...)
	}
}

func TestRunRulesFollowTheirRule(t *testing.T) {
	s := &sweep{}
	for range 200 {
		n, count := 1+s.below(impl.MaxSeries), s.below(impl.MaxRule+1)
		rule, first := s.calm(0.25, n), s.pairs(s.small, n)
		list, ok := impl.RunRule(rule, first, int64(count))
		if !ok || len(list) != count {
			t.Fatalf("RunRule %v, %v and %v: %v, %v", rule, first, count, list, ok)
		}
		for k, got := range list {
			want := complex128(0)
			for i := range rule {
				if k >= n {
					want += complex128(rule[i]) * complex128(list[k-1-i])
				}
			}
			if k < n {
				want = complex128(first[k])
			}
			wantClose(t, plain("the number ", k, " of RunRule"), got, complex64(want), nearTerm*max(1, impl.LongOf(complex64(want))))
		}
	}
}

// TestSpeedUpFindsWhereListsLead has sums of powers.
func TestSpeedUpFindsWhereListsLead(t *testing.T) {
	s := &sweep{}
	for range 200 {
		goal, step, by := pairOf(s.small), pairOf(s.small)+4, complex(s.small()/8, s.small()/8)
		if impl.LongOf(by) < 0.2 {
			continue
		}
		list := []complex64{}
		for range 5 {
			list = append(list, goal+step)
			step = impl.MulComplex(step, by)
		}
		got, ok := impl.SpeedUp(list)
		wantCloseList(t, plain("SpeedUp ", list), got, ok, repeated(goal, 3), 0.01)
	}
}

func TestPolynomialsAreLoadedAsTheyWereStored(t *testing.T) {
	s := &sweep{}
	for range 500 {
		list := []impl.Saved{}
		for range s.below(impl.MaxSaved + 1) {
			p, _ := impl.PolyOf(s.pairs(s.spread, 1+s.below(impl.MaxTerms)))
			list = append(list, savedOf(s.name(), p, s.whole(impl.MaxDegree3+1, great)))
		}
		for _, saved := range list {
			stored, isStored := impl.StoreSaved(saved)
			got, ok := impl.LoadSaved(stored)
			wantSaved(t, "LoadSaved", got, ok && isStored, saved)
		}
		text, isStored := impl.StoreAll(list)
		got, size, ok := impl.RecoverAll(text)
		if !isStored || !ok || size != int64(len(text)) || !impl.SameSaved(got, list) {
			t.Fatalf("RecoverAll StoreAll %v: %v, %d, %v", list, got, size, ok)
		}
	}
}
