package tests

import (
	"math"
	"slices"
	"testing"

	"loop.example/g01358/impl"
)

// filled returns the series of n terms that begins with some, and goes on with 0.
func filled(n int, terms ...complex64) []complex64 {
	return append(terms, make([]complex64, n-len(terms))...)
}

// countUp returns the numbers from first on, n of them.
func countUp(first float32, n int) []complex64 {
	list := make([]complex64, n)
	for i := range list {
		list[i] = complex(first+float32(i), 0)
	}
	return list
}

// noSeries are lists with a first term for which every function of series fails.
func noSeries(first complex64) [][]complex64 {
	lists := [][]complex64{nil, {}, filled(impl.MaxSeries+1, first), filled(300, first), filled(impl.MaxSeries+1, first, 1)}
	for _, x := range infinities() {
		lists = append(lists, []complex64{x}, []complex64{first, x}, []complex64{first, 1, x}, append(filled(impl.MaxSeries-1, first, 1), x))
	}
	return lists
}

type seriesPair struct {
	a, want []complex64
}

// wantSeries checks what a function makes of series with a first term that it
// takes, and that it fails for others.
func wantSeries(t *testing.T, name string, call func(a []complex64) ([]complex64, bool), first complex64, cases []seriesPair, wrong [][]complex64) {
	t.Helper()
	for _, c := range cases {
		got, ok := call(c.a)
		wantList(t, plain(name, " of ", c.a), got, ok, c.want...)
	}
	for _, a := range append(wrong, noSeries(first)...) {
		got, ok := call(a)
		wantNoList(t, plain(name, " of ", a), got, ok)
	}
}

type seriesTriple struct {
	a, b, want []complex64
}

// wantOfTwo does the same for two series, the latter of which has a first term
// that the function takes.
func wantOfTwo(t *testing.T, name string, call func(a, b []complex64) ([]complex64, bool), first complex64, cases []seriesTriple, wrong [][2][]complex64) {
	t.Helper()
	for _, c := range cases {
		got, ok := call(c.a, c.b)
		wantList(t, plain(name, " of ", c.a, " and ", c.b), got, ok, c.want...)
	}
	for _, a := range noSeries(first) {
		for _, n := range []int{1, 2, 3, max(1, len(a))} {
			wrong = append(wrong, [2][]complex64{a, filled(n, first)}, [2][]complex64{filled(n, first), a}, [2][]complex64{a, a})
		}
	}
	for n := 1; n <= impl.MaxSeries; n++ {
		for _, other := range []int{n - 1, n + 1, impl.MaxSeries + 1} {
			if other > 0 {
				wrong = append(wrong, [2][]complex64{filled(n, first), filled(other, first)})
			}
		}
	}
	for _, c := range wrong {
		got, ok := call(c[0], c[1])
		wantNoList(t, plain(name, " of ", c[0], " and ", c[1]), got, ok)
	}
}

// farNumbers are far away from all limits.
func farNumbers() []int64 {
	return []int64{math.MinInt64, -1 << 40, -1 << 32, 1 << 32, 1<<32 + 1, 1 << 40, math.MaxInt64}
}

// sealed puts the check number behind bytes.
func sealed(bytes string) string {
	check := int64(0)
	for i := range len(bytes) {
		check = (911*check + int64(bytes[i]) + 181) % 65003
	}
	return bytes + string([]byte{byte(check % 256), byte(check / 256)})
}

// fourBytes are those of a number, the least one first.
func fourBytes(n uint32) string {
	return string([]byte{byte(n), byte(n >> 8), byte(n >> 16), byte(n >> 24)})
}

func pairBytes(x complex64) string {
	return fourBytes(math.Float32bits(real(x))) + fourBytes(math.Float32bits(imag(x)))
}

func termBytes(n int64) string {
	return fourBytes(uint32(n + 2147483648))
}

// storedAs is the tests' own StoreSaved, which takes what is not valid, too.
func storedAs(s impl.Saved) string {
	bytes := "POL1" + string([]byte{byte(len(s.Name))}) + s.Name + string([]byte{byte(len(s.Poly.Terms))})
	for _, term := range s.Poly.Terms {
		bytes += pairBytes(term)
	}
	bytes += string([]byte{byte(len(s.Whole.Terms))})
	for _, term := range s.Whole.Terms {
		bytes += termBytes(term)
	}
	return sealed(bytes)
}

func savedOf(name string, p impl.Poly, w impl.Whole) impl.Saved {
	return impl.Saved{Name: name, Poly: p, Whole: w}
}

// validSaved have edges of all parts.
func validSaved() []impl.Saved {
	list := []impl.Saved{}
	names := []string{"a", "z", "ab", "polynoms", "zzzzzzzz", "abcdefg"}
	wholes := validWholes()
	for i, p := range validPolys() {
		list = append(list, savedOf(names[i%len(names)], p, wholes[i%len(wholes)]))
	}
	for i, w := range wholes {
		list = append(list, savedOf(names[i%len(names)], polyOf(1, 2), w))
	}
	return list
}

// wrongNames are no names.
func wrongNames() []string {
	return []string{"", "abcdefghi", "A", "aB", "a1", "1", "_", "a b", " a", "a ", "a\x00", "\x00", "`", "{", "\u00e4", "a\xff", "a\n"}
}

// invalidSaved have one part that is not valid.
func invalidSaved() []impl.Saved {
	list := []impl.Saved{{}}
	for _, name := range wrongNames() {
		list = append(list, savedOf(name, polyOf(1), whole(1)))
	}
	for _, p := range invalidPolys() {
		list = append(list, savedOf("a", p, whole(1)))
	}
	for _, w := range invalidWholes() {
		list = append(list, savedOf("a", polyOf(1), w))
	}
	return list
}

// sameSaved is the tests' own SameSaved of one.
func sameSaved(a, b impl.Saved) bool {
	return a.Name == b.Name && sameLists(a.Poly.Terms, b.Poly.Terms) && slices.Equal(a.Whole.Terms, b.Whole.Terms)
}

func wantSaved(t *testing.T, what string, got impl.Saved, ok bool, want impl.Saved) {
	t.Helper()
	if !ok || !sameSaved(got, want) {
		t.Errorf("%s: got %v, %v, want %v", what, got, ok, want)
	}
}

func wantNoSaved(t *testing.T, what string, got impl.Saved, ok bool) {
	t.Helper()
	if ok || !sameSaved(got, impl.Saved{}) {
		t.Errorf("%s: got %v, %v, but it must fail", what, got, ok)
	}
}

func wantText(t *testing.T, what, got string, ok bool, want string) {
	t.Helper()
	if !ok || got != want {
		t.Errorf("%s: got %q, %v, want %q", what, got, ok, want)
	}
}

func wantNoText(t *testing.T, what, got string, ok bool) {
	t.Helper()
	if ok || got != "" {
		t.Errorf("%s: got %q, %v, but it must fail", what, got, ok)
	}
}
