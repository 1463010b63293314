package tests

import (
	"encoding/hex"
	"fmt"
	"math"
	"slices"
	"strconv"
	"strings"
	"testing"

	"loop.example/g01358/impl"
)

// deskOf returns the desk with these parts, whether it is valid or not.
func deskOf(a, b impl.Poly, r impl.Real, points ...complex64) impl.Desk {
	return impl.Desk{A: a, B: b, Real: r, Points: points}
}

// newDesk is the tests' own NewDesk.
func newDesk() impl.Desk {
	return deskOf(polyOf(-1, 0, 1), polyOf(-1, 1), realOf(-2, 0, 1), 0, 1, 2)
}

// deskWithA, and those after it, are new desks with one other part.
func deskWithA(terms ...complex64) impl.Desk {
	d := newDesk()
	d.A = polyOf(terms...)
	return d
}

func deskWithBoth(a, b impl.Poly) impl.Desk {
	d := newDesk()
	d.A, d.B = a, b
	return d
}

func deskWithReal(r impl.Real) impl.Desk {
	d := newDesk()
	d.Real = r
	return d
}

func deskWithPoints(points ...complex64) impl.Desk {
	d := newDesk()
	d.Points = points
	return d
}

// validPoints are lists of points with edges.
func validPoints() [][]complex64 {
	return [][]complex64{
		{0}, {minusBoth}, {1, -1}, {complex(0, 1), complex(0, -1), 1, -1}, {complex(greatest, minusGreat), complex(least, minusLeast), minusBoth},
		{complex(minusZero, 1), 1, afterPair(1)}, stepsBy(1, impl.MaxTerms-1), stepsBy(complex(0.5, -0.25), impl.MaxTerms),
	}
}

// afterPair is the number whose real part is the next one.
func afterPair(x float32) complex64 {
	return complex(math.Nextafter32(x, plusInf), 0)
}

// validDesks have edges of all parts.
func validDesks() []impl.Desk {
	desks := []impl.Desk{newDesk()}
	polys, reals, points := validPolys(), validReals(), validPoints()
	for i, p := range polys {
		desks = append(desks, deskOf(p, polys[(i+5)%len(polys)], reals[i%len(reals)], points[i%len(points)]...))
	}
	for i, r := range reals {
		desks = append(desks, deskOf(polys[(3*i)%len(polys)], polys[i%len(polys)], r, points[(i+1)%len(points)]...))
	}
	return desks
}

// invalidDesks have one part that is not valid.
func invalidDesks() []impl.Desk {
	desks := []impl.Desk{{}, {A: polyOf([]complex64{}...), B: polyOf([]complex64{}...), Real: realOf([]int64{}...), Points: []complex64{}}}
	for _, p := range invalidPolys() {
		desks = append(desks, deskWithBoth(p, polyOf(1)), deskWithBoth(polyOf(1), p), deskWithBoth(p, p))
	}
	for _, r := range invalidReals() {
		desks = append(desks, deskWithReal(r))
	}
	for _, points := range noPointLists() {
		desks = append(desks, deskWithPoints(points...))
	}
	return desks
}

// sameDesk is the tests' own SameDesk.
func sameDesk(a, b impl.Desk) bool {
	return sameLists(a.A.Terms, b.A.Terms) && sameLists(a.B.Terms, b.B.Terms) && slices.Equal(a.Real.Terms, b.Real.Terms) && sameLists(a.Points, b.Points)
}

// pairsText is the tests' own text of complex numbers.
func pairsText(list ...complex64) string {
	texts := []string{}
	for _, x := range list {
		texts = append(texts, numbersText(real(x))+numbersText(imag(x)))
	}
	if len(texts) == 0 {
		return "none"
	}
	return strings.Join(texts, ",")
}

// numbersText is the tests' own text of numbers.
func numbersText(list ...float32) string {
	texts := []string{}
	for _, x := range list {
		bits := math.Float32bits(x)
		if x != x {
			bits = math.Float32bits(nan)
		}
		texts = append(texts, hex.EncodeToString([]byte{byte(bits >> 24), byte(bits >> 16), byte(bits >> 8), byte(bits)}))
	}
	if len(texts) == 0 {
		return "none"
	}
	return strings.Join(texts, ",")
}

// integersText is the tests' own text of integers.
func integersText(list ...int64) string {
	texts := []string{}
	for _, n := range list {
		texts = append(texts, strconv.FormatInt(n, 10))
	}
	if len(texts) == 0 {
		return "none"
	}
	return strings.Join(texts, ",")
}

// checkOf is the tests' own CheckOf.
func checkOf(start int, text string) int {
	for i := range len(text) {
		start = (911*start + int(text[i]) + 181) % 65003
	}
	return start
}

// journalOf is the tests' own JournalOf, which takes any lines.
func journalOf(lines ...string) string {
	var journal strings.Builder
	check := 0
	for _, line := range lines {
		check = checkOf(check, line)
		fmt.Fprintf(&journal, "%d %s\n", check, line)
	}
	return journal.String()
}

func tellDesk(d impl.Desk) string {
	return fmt.Sprintf("%s | %s | %s | %s", pairsText(d.A.Terms...), pairsText(d.B.Terms...), integersText(d.Real.Terms...), pairsText(d.Points...))
}

func wantDesk(t *testing.T, what string, got impl.Desk, ok bool, want impl.Desk) {
	t.Helper()
	if !ok || !sameDesk(got, want) {
		t.Errorf("%s: got %s, %v, want %s", what, tellDesk(got), ok, tellDesk(want))
	}
}

func wantNoDesk(t *testing.T, what string, got impl.Desk, ok bool) {
	t.Helper()
	if ok || !sameDesk(got, impl.Desk{}) {
		t.Errorf("%s: got %s, %v, but it must fail", what, tellDesk(got), ok)
	}
}

// wantLine checks the desk behind a line, and the output.
func wantLine(t *testing.T, d impl.Desk, line string, after impl.Desk, output string) {
	t.Helper()
	got, text, ok := impl.DeskCommand(d, line)
	wantDesk(t, fmt.Sprintf("the desk behind %.200q at %s", line, tellDesk(d)), got, ok, after)
	wantText(t, fmt.Sprintf("%.200q at %s", line, tellDesk(d)), text, ok, output)
}

// wantSame checks a line that changes nothing.
func wantSame(t *testing.T, d impl.Desk, line, output string) {
	t.Helper()
	wantLine(t, d, line, d, output)
}

func spoilDesk(d impl.Desk) {
	spoilList(d.A.Terms)
	spoilList(d.B.Terms)
	spoilList(d.Real.Terms)
	spoilList(d.Points)
}
