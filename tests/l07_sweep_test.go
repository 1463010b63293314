package tests

import (
	"testing"

	"loop.example/g01358/impl"
)

const seriesRounds = 250

// seriesDraw is what one round of the sweep calls the functions with. The series
// zero and inner have the first term 0, and one has 1.
type seriesDraw struct {
	a, b              []complex64
	zero, one, inner  []complex64
	z                 complex64
	points            []complex64
	above, below      int64
	p, q              impl.Poly
	count, workers    int64
	roots, parts      []complex64
	list, rule, first []int64
	prime, most       int64
	weights, begin    []complex64
	saved             []impl.Saved
	text, last        string
}

// startingWith returns a copy with another first term.
func startingWith(a []complex64, first complex64) []complex64 {
	return append([]complex64{first}, a[1:]...)
}

// listOver gives numbers over a prime, half of the time those of a rule, most of
// which stay as they are.
func (s *sweep) listOver(prime int64, n int) []int64 {
	list := make([]int64, n)
	for i := range list {
		list[i] = int64(s.below(int(prime)) * s.below(2))
	}
	if s.below(2) == 0 {
		return list
	}
	r := s.below(min(n, 12) + 1)
	followed, _ := impl.FollowRule(list[n-r:], list[:r], prime, int64(n))
	followed[s.below(n)] = int64(s.below(int(prime)))
	return followed
}

func (s *sweep) name() string {
	letters := make([]byte, 1+s.below(8))
	for i := range letters {
		letters[i] = byte('a' + s.below(26))
	}
	return string(letters)
}

func (s *sweep) savedList(draw func() float32) []impl.Saved {
	list := make([]impl.Saved, s.below(impl.MaxSaved+2))
	for i := range list {
		size := []int64{3, 1000000, 1000040}[s.below(3)]
		list[i] = impl.Saved{Name: s.name(), Poly: polyOf(s.pairs(draw, 1+s.below(6))...), Whole: s.whole(6, size)}
	}
	return list
}

// bent gives what is nearly a text.
func (s *sweep) bent(text string) string {
	bytes := []byte(text)
	if len(bytes) == 0 {
		return text
	}
	switch at := s.below(len(bytes)); s.below(5) {
	case 0:
		return text[:at]
	case 1:
		bytes[at] ^= byte(1 << s.below(8))
	case 2:
		return text + text[at:]
	case 3:
		return text[at:]
	}
	return string(bytes)
}

func (s *sweep) seriesDraw(draw func() float32) seriesDraw {
	n := 1 + s.below([2]int{5, impl.MaxSeries}[s.below(2)])
	v := seriesDraw{a: s.pairs(draw, n), b: s.pairs(draw, n), z: pairOf(draw), points: s.pairs(draw, s.below(20)), workers: int64(1 + s.below(impl.MaxWorkers))}
	v.zero, v.one, v.inner = startingWith(v.a, complex(0, minusZero)), startingWith(v.a, 1), startingWith(v.b, 0)
	v.p, v.q = s.polyOfDegree(draw, s.below(impl.MaxTerms)), s.polyOfDegree(draw, s.below(6))
	v.count = int64(1 + s.below(impl.MaxSeries))
	if quotient, ok := impl.SeriesOfQuotient(v.p, v.q, int64(n)); ok && s.below(2) == 0 {
		v.b = quotient
	}
	v.below = int64(s.below(5))
	v.above = int64(s.below(max(1, n-int(v.below))))
	v.roots = s.points(draw)
	v.parts = s.pairs(draw, len(v.roots))
	v.prime = primes()[s.below(6)]
	v.list = s.listOver(v.prime, 1+s.below([2]int{12, impl.MaxRule}[s.below(2)]))
	r := s.below([2]int{6, impl.MaxRule + 1}[s.below(2)])
	v.rule, v.first, v.most = s.listOver(v.prime, max(1, r))[:r], s.listOver(v.prime, max(1, r))[:r], int64(s.below(impl.MaxRule+1))
	r = 1 + s.below([2]int{3, impl.MaxSeries}[s.below(2)])
	v.weights, v.begin = s.pairs(draw, r), s.pairs(draw, r)
	v.saved = s.savedList(draw)
	stored := ""
	for _, saved := range v.saved {
		stored, _ = impl.StoreSaved(saved)
		v.text += stored
	}
	v.text, v.last = s.bent(v.text), s.bent(stored)
	return v
}

func (d *digest) text(s string, ok bool) {
	d.success(ok)
	d.add(uint64(len(s)))
	for i := range len(s) {
		d.add(uint64(s[i]))
	}
}

func (d *digest) saved(saved impl.Saved, ok bool) {
	d.text(saved.Name, ok)
	d.list(saved.Poly.Terms, true)
	d.integers(saved.Whole.Terms, true)
}

type seriesCase struct {
	name string
	want digest
	call func(d *digest, v seriesDraw)
}

// The digests were told by a program that was written apart from this one, in
// another language, from the document alone.
func seriesCases() []seriesCase {
	return []seriesCase{
		{"IsSeries", 0xbdcd0b127b025f18, func(d *digest, v seriesDraw) { d.success(impl.IsSeries(v.a)) }},
		{"MulSeries", 0xd6cf40df5365599a, func(d *digest, v seriesDraw) { d.list(impl.MulSeries(v.a, v.b)) }},
		{"InverseSeries", 0xeccdab69c07ff2e8, func(d *digest, v seriesDraw) { d.list(impl.InverseSeries(v.a)) }},
		{"DivSeries", 0xc8a13f793e4c25f, func(d *digest, v seriesDraw) { d.list(impl.DivSeries(v.a, v.b)) }},
		{"SlopeSeries", 0x1f38420cbc66bb58, func(d *digest, v seriesDraw) { d.list(impl.SlopeSeries(v.a)) }},
		{"RiseSeries", 0xf9bcb19642163105, func(d *digest, v seriesDraw) { d.list(impl.RiseSeries(v.a)) }},
		{"ExpSeries", 0xeb285ebeef54d73, func(d *digest, v seriesDraw) { d.list(impl.ExpSeries(v.zero)) }},
		{"LogSeries", 0x71d05e5bbba01179, func(d *digest, v seriesDraw) { d.list(impl.LogSeries(v.one)) }},
		{"RootSeries", 0xe333f162fffde44c, func(d *digest, v seriesDraw) { d.list(impl.RootSeries(v.one)) }},
		{"PowerSeries", 0x6471ea281b74246, func(d *digest, v seriesDraw) { d.list(impl.PowerSeries(v.one, v.z)) }},
		{"ComposeSeries", 0x44726cc192bf766d, func(d *digest, v seriesDraw) { d.list(impl.ComposeSeries(v.a, v.inner)) }},
		{"TurnSeries", 0x2491282c94560eea, func(d *digest, v seriesDraw) { d.list(impl.TurnSeries(v.zero)) }},
		{"SeriesAt", 0xefe2c427bb589f7f, func(d *digest, v seriesDraw) { d.value(impl.SeriesAt(v.a, v.z)) }},
		{"SeriesShared", 0x663a7221c6bd50d1, func(d *digest, v seriesDraw) { d.list(impl.SeriesShared(v.a, v.points, v.workers)) }},
		{"FitQuotient", 0x22b6121cce9bde0f, func(d *digest, v seriesDraw) {
			p, q, ok := impl.FitQuotient(v.b, v.above, v.below)
			d.poly(p, ok)
			d.poly(q, ok)
		}},
		{"QuotientAt", 0xaabefd83356d6ab7, func(d *digest, v seriesDraw) { d.value(impl.QuotientAt(v.p, v.q, v.z)) }},
		{"SeriesOfQuotient", 0xab1c5f94fb8bafb8, func(d *digest, v seriesDraw) { d.list(impl.SeriesOfQuotient(v.p, v.q, v.count)) }},
		{"PartsOf", 0xcb6ce4ae83e8552, func(d *digest, v seriesDraw) { d.list(impl.PartsOf(v.p, v.roots)) }},
		{"PartsAt", 0xb4cc7af679ce21b9, func(d *digest, v seriesDraw) { d.value(impl.PartsAt(v.parts, v.roots, v.z)) }},
	}
}

func ruleCases() []seriesCase {
	return []seriesCase{
		{"RuleOver", 0x4540d3cd2f033e9b, func(d *digest, v seriesDraw) { d.integers(impl.RuleOver(v.list, v.prime)) }},
		{"FollowRule", 0xfd2ed58d5d1cf77a, func(d *digest, v seriesDraw) { d.integers(impl.FollowRule(v.rule, v.first, v.prime, v.most)) }},
		{"RunRule", 0xad38e077633a9752, func(d *digest, v seriesDraw) { d.list(impl.RunRule(v.weights, v.begin, v.most)) }},
		{"SpeedUp", 0x78900daac4ac2c61, func(d *digest, v seriesDraw) { d.list(impl.SpeedUp(v.a)) }},
		{"ValidSaved", 0x7cba16d65163035f, func(d *digest, v seriesDraw) {
			for _, saved := range v.saved {
				d.success(impl.ValidSaved(saved))
			}
		}},
		{"StoreSaved", 0x5f1e0f364e13ebf5, func(d *digest, v seriesDraw) {
			for _, saved := range v.saved {
				d.text(impl.StoreSaved(saved))
			}
		}},
		{"LoadSaved", 0xc05f84f78da35146, func(d *digest, v seriesDraw) { d.saved(impl.LoadSaved(v.last)) }},
		{"StoreAll", 0xe22dd51b63760324, func(d *digest, v seriesDraw) { d.text(impl.StoreAll(v.saved)) }},
		{"RecoverAll", 0xc9f75195bc10b0d0, func(d *digest, v seriesDraw) {
			list, size, ok := impl.RecoverAll(v.text)
			d.success(ok)
			d.add(uint64(len(list)))
			d.add(uint64(size))
			for _, saved := range list {
				d.saved(saved, true)
			}
		}},
	}
}

func TestSeriesSweeps(t *testing.T) {
	for _, c := range append(seriesCases(), ruleCases()...) {
		s := &sweep{}
		d := digest(0)
		for range seriesRounds {
			for _, draw := range []func() float32{s.small, s.coarse, s.spread, s.any} {
				c.call(&d, s.seriesDraw(draw))
			}
		}
		if d != c.want {
			t.Errorf("%s: digest %#x, want %#x", c.name, uint64(d), uint64(c.want))
		}
	}
}
