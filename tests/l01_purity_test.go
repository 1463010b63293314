package tests

import (
	"fmt"
	"math"
	"strings"
	"testing"

	"loop.example/g01358/impl"
)

// plain tells results as text, in which not-a-numbers are one value, as they
// are in the document, but zeros with and without a sign are two.
func plain(results ...any) string {
	return fmt.Sprint(results...)
}

// numberResults calls all functions of numbers.
func numberResults(x, y float32, w float64) string {
	bits := impl.BitsOf(x)
	back, ok := impl.FromBits(bits)
	tenths, isPower := impl.TenthsOf(x)
	a, b := complex(x, y), complex(y, x)
	return plain(
		impl.SameNumber(x, y), impl.IsFinite(x), bits, back, ok, impl.NarrowNumber(w), impl.IsSubnormal(x), impl.FlushNumber(x),
		impl.SameComplex(a, b), impl.IsFiniteComplex(a), impl.NarrowComplex(complex(w, float64(y))),
		impl.MulComplex(a, b), impl.ScaleComplex(a, y), impl.ConjugateOf(a), impl.PowerOf(a), impl.LongOf(a), impl.QuotientOf(a, b),
		impl.PhasorOf(w), impl.AngleOf(a), impl.SineTurns(x), impl.AngleTurns(y, x), tenths, isPower,
		impl.RootNumber(x), impl.ExpNumber(x), impl.LogNumber(x),
	)
}

// specialWides are 64-bit numbers beside the 32-bit ones.
func specialWides() []float64 {
	list := []float64{
		math.MaxFloat64, -math.MaxFloat64, 5e-324, -5e-324, 1e-300, 0x1p52, -0x1p52, 0x1p52 - 0.5, 0.5 - 0x1p52, 0x1p63, -0x1p63, 1e-17, -1e-17,
	}
	for _, x := range specials() {
		list = append(list, float64(x))
	}
	return list
}

func TestNumbersReturnForAll(t *testing.T) {
	for _, x := range specials() {
		for _, y := range specials() {
			for _, w := range specialWides() {
				if one, two := numberResults(x, y, w), numberResults(x, y, w); one != two {
					t.Fatalf("different results for %g, %g and %g: %s and %s", x, y, w, one, two)
				}
			}
		}
	}
}

// listResults calls all functions of lists.
func listResults(numbers, others []float32, pairs, partners []complex64, values []int64) string {
	a, one := impl.SumNumbers(numbers)
	b, two := impl.DotNumbers(numbers, others)
	c, three := impl.SumComplex(pairs)
	d, four := impl.DotComplex(pairs, partners)
	e, five := impl.DotConjugate(pairs, partners)
	f, six := impl.PowersOf(pairs)
	g, seven := impl.NumbersText(numbers)
	h, eight := impl.ComplexText(pairs)
	i, nine := impl.ListText(values)
	return plain(a, one, b, two, c, three, d, four, e, five, f, six, g, seven, h, eight, i, nine)
}

// mixedPairs has n complex numbers of special parts.
func mixedPairs(n, step int) []complex64 {
	parts := specials()
	list := make([]complex64, n)
	for i := range list {
		list[i] = complex(parts[i*step%len(parts)], parts[i%len(parts)])
	}
	return list
}

func realParts(pairs []complex64) []float32 {
	list := make([]float32, len(pairs))
	for i, x := range pairs {
		list[i] = real(x)
	}
	return list
}

// unchanged reports whether two lists have the same bits, the capacity behind
// their lengths included.
func unchanged[T any](a, b []T) bool {
	return plain(a[:cap(a)]) == plain(b[:cap(b)])
}

// spare returns a copy of a list with its first n items, and with the others
// behind its length.
func spare[T any](list []T, n int) []T {
	all := make([]T, len(list))
	copy(all, list)
	return all[:n]
}

func TestListsStayAsTheyAre(t *testing.T) {
	const room = 300
	pairs, partners := mixedPairs(room, 7), mixedPairs(room, 11)
	numbers, others := realParts(pairs), realParts(partners)
	values := make([]int64, room)
	for i := range values {
		values[i] = int64(i*i) - 1000
	}
	for _, n := range []int{0, 1, 2, 29, 63, 64, 65, 255, 256, 257, 300} {
		x, y := spare(pairs, n), spare(partners, n)
		a, b, v := spare(numbers, n), spare(others, n), spare(values, n)
		one := listResults(a, b, x, y, v)
		if two := listResults(a, b, x, y, v); one != two {
			t.Errorf("different results for lists of %d: %s and %s", n, one, two)
		}
		if !unchanged(x, pairs) || !unchanged(y, partners) || !unchanged(a, numbers) || !unchanged(b, others) || !unchanged(v, values) {
			t.Errorf("a list of %d has been changed", n)
		}
	}
}

func TestNilAndEmptyListsAreOneValue(t *testing.T) {
	none := listResults(nil, nil, nil, nil, nil)
	empty := listResults([]float32{}, []float32{}, []complex64{}, []complex64{}, []int64{})
	mixed := listResults(nil, []float32{}, []complex64{}, nil, nil)
	if none != empty || none != mixed {
		t.Errorf("different results for no list: %s, %s and %s", none, empty, mixed)
	}
}

// strangeTexts are texts for which readers must return something.
func strangeTexts() []string {
	texts := []string{
		"", "none", ",", "\x00", "\xff\xfe", "\u00e9", "-", "--", "0", "-0", "1,2,3", "3f800000", "3f80000000000000", "3f800000,",
		strings.Repeat(",", 5000), strings.Repeat("9", 5000), strings.Repeat("\xff", 5000), strings.Repeat("none,", 500),
	}
	for b := range 256 {
		texts = append(texts, string([]byte{byte(b)}), strings.Repeat(string([]byte{byte(b)}), 8), strings.Repeat(string([]byte{byte(b)}), 16))
	}
	return texts
}

func textResults(s string, n int64) string {
	a, one := impl.ReadNumbers(s)
	b, two := impl.ReadComplex(s)
	c, three := impl.ReadDecimal(s)
	d, four := impl.ReadList(s)
	e, five := impl.CheckOf(n, s)
	f, six := impl.FromBits(n)
	return plain(a, one, b, two, c, three, d, four, e, five, f, six, impl.IsName(s), impl.Decimal(n))
}

func TestTextsReturnForAll(t *testing.T) {
	for _, s := range strangeTexts() {
		for _, n := range []int64{0, 1, -1, impl.CheckSize - 1, impl.CheckSize, math.MinInt64, math.MaxInt64} {
			if one, two := textResults(s, n), textResults(s, n); one != two {
				t.Fatalf("different results for %q and %d: %s and %s", s, n, one, two)
			}
		}
	}
}

func TestReadListsAreNew(t *testing.T) {
	const numbers, pairs, values = "3f800000,40000000", "3f80000040000000,4000000000000000", "1,2,3"
	a, _ := impl.ReadNumbers(numbers)
	b, _ := impl.ReadComplex(pairs)
	c, _ := impl.ReadList(values)
	a[0], b[0], c[0] = 9, 9, 9
	d, _ := impl.ReadNumbers(numbers)
	e, _ := impl.ReadComplex(pairs)
	f, _ := impl.ReadList(values)
	if d[0] != 1 || e[0] != complex(1, 2) || f[0] != 1 || a[0] != 9 || b[0] != 9 || c[0] != 9 {
		t.Errorf("lists that were read share memory: %v %v %v, %v %v %v", a, b, c, d, e, f)
	}
}
