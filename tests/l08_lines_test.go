package tests

import (
	"slices"
	"strings"
	"testing"

	"loop.example/g01358/impl"
)

const (
	wordOfOne   = "3f80000000000000"
	wordOfTwo   = "4000000000000000"
	wordOfMinus = "bf80000000000000"
	wordOfGreat = "7f7fffff7f7fffff"
)

// goodLines has a line of each form of the document's table that is done at the
// new desk.
func goodLines() []string {
	return []string{
		"a " + wordOfOne, "b " + wordOfOne, "real 1", "points " + wordOfOne, "a", "b", "real", "points", "add", "mul", "compose", "div", "swap", "slope", "rise", "monic", "back",
		"shift " + wordOfOne, "scale " + wordOfOne, "stretch " + wordOfOne, "at " + wordOfOne, "bound " + wordOfOne, "degree", "within", "values", "pass", "family 0 1",
		"roots", "near", "gaps", "ratio", "sign 1 2",
	}
}

func TestAllFormsAreDone(t *testing.T) {
	for _, line := range goodLines() {
		_, output, ok := impl.DeskCommand(newDesk(), line)
		if !ok || output == "" || output == "no" || output == "what" {
			t.Errorf("%q: %q, %v", line, output, ok)
		}
	}
}

// TestPartsAreSet has texts for each part, and such as have none.
func TestPartsAreSet(t *testing.T) {
	for _, p := range validPolys() {
		text := pairsText(p.Terms...)
		d := deskWithBoth(p, newDesk().B)
		wantLine(t, newDesk(), "a "+text, d, "ok")
		wantSame(t, d, "a", text)
		d = deskWithBoth(newDesk().A, p)
		wantLine(t, newDesk(), "b "+text, d, "ok")
		wantSame(t, d, "b", text)
	}
	for _, r := range validReals() {
		text := integersText(r.Terms...)
		wantLine(t, newDesk(), "real "+text, deskWithReal(r), "ok")
		wantSame(t, deskWithReal(r), "real", text)
	}
	for _, points := range validPoints() {
		text := pairsText(points...)
		wantLine(t, newDesk(), "points "+text, deskWithPoints(points...), "ok")
		wantSame(t, deskWithPoints(points...), "points", text)
	}
}

// answerOf is what a line is answered with whose last word is none that a
// function takes: blanks in it make more words of it.
func answerOf(word string) string {
	if strings.Contains(word, " ") {
		return "what"
	}
	return "no"
}

func TestPartsAreNotSet(t *testing.T) {
	d := deskOf(polyOf(complex(minusZero, 0), 1), polyOf(minusBoth), realOf(0, -1), minusBoth, 1)
	for _, text := range noPolyTexts() {
		wantSame(t, d, "a "+text, answerOf(text))
		wantSame(t, d, "b "+text, answerOf(text))
	}
	for _, text := range noRealTexts() {
		wantSame(t, d, "real "+text, answerOf(text))
	}
	texts := noPairTexts()
	for _, points := range noPointLists() {
		texts = append(texts, pairsText(points...))
	}
	for _, text := range append(texts, repeatedText(wordOfOne, 257)) {
		wantSame(t, d, "points "+text, answerOf(text))
	}
	// The text of one part is none of another one.
	wantSame(t, d, "real "+wordOfOne, "no")
	wantSame(t, d, "a 1", "no")
	wantSame(t, d, "points 1", "no")
}

func TestLinesOfBoth(t *testing.T) {
	a, b := polyOf(-1, 0, 1), polyOf(-1, 1)
	d := deskWithBoth(a, b)
	wantLine(t, d, "add", deskWithBoth(polyOf(-2, 1, 1), b), "ok")
	wantLine(t, d, "mul", deskWithBoth(polyOf(1, -1, -1, 1), b), "ok")
	wantLine(t, d, "compose", deskWithBoth(polyOf(0, -2, 1), b), "ok")
	wantLine(t, d, "div", deskWithBoth(polyOf(1, 1), polyOf(0)), "ok")
	wantLine(t, d, "swap", deskWithBoth(b, a), "ok")
	wantLine(t, deskWithBoth(a, a), "swap", deskWithBoth(a, a), "ok")
	wantLine(t, deskWithBoth(polyOf(1, 1), polyOf(2, -1)), "add", deskWithBoth(polyOf(3), polyOf(2, -1)), "ok")
	wantLine(t, deskWithBoth(polyOf(2, 0, 1), polyOf(-1, 0, -1)), "add", deskWithBoth(polyOf(1), polyOf(-1, 0, -1)), "ok")
	wantLine(t, deskWithBoth(ones(9), ones(9)), "mul", deskWithBoth(polyOf(1, 2, 3, 4, 5, 6, 7, 8, 9, 8, 7, 6, 5, 4, 3, 2, 1), ones(9)), "ok")
	wantSame(t, deskWithBoth(ones(9), ones(10)), "mul", "no")
	wantSame(t, deskWithBoth(ones(10), ones(9)), "mul", "no")
	wantLine(t, deskWithBoth(power(4, 1), power(4, 1)), "compose", deskWithBoth(power(16, 1), power(4, 1)), "ok")
	wantSame(t, deskWithBoth(power(4, 1), power(5, 1)), "compose", "no")
	wantSame(t, deskWithBoth(power(5, 1), power(4, 1)), "compose", "no")
	great := deskWithBoth(polyOf(1, complex(greatest, minusGreat)), polyOf(2, complex(greatest, minusGreat)))
	wantSame(t, great, "add", "no")
	wantSame(t, great, "mul", "no")
	wantSame(t, great, "compose", "no")
}

// TestDivision has rests and quotients, and what can't be divided.
func TestDivision(t *testing.T) {
	a := polyOf(3, 2, 1)
	wantLine(t, deskWithBoth(a, polyOf(1, 1)), "div", deskWithBoth(polyOf(1, 1), polyOf(2)), "ok")
	wantLine(t, deskWithBoth(a, a), "div", deskWithBoth(polyOf(1), polyOf(0)), "ok")
	wantLine(t, deskWithBoth(a, polyOf(complex(0, 1))), "div", deskWithBoth(polyOf(complex(0, -3), complex(0, -2), complex(0, -1)), polyOf(0)), "ok")
	// The quotient by one of a higher degree is 0, and the rest is all of it.
	wantLine(t, deskWithBoth(a, power(3, 2)), "div", deskWithBoth(polyOf(0), a), "ok")
	wantLine(t, deskWithBoth(polyOf(minusBoth), polyOf(0, 1)), "div", deskWithBoth(polyOf(0), polyOf(minusBoth)), "ok")
	wantLine(t, deskWithBoth(polyOf(complex(minusZero, 0), complex(0, minusLeast)), ones(impl.MaxTerms)), "div", deskWithBoth(polyOf(0), polyOf(complex(minusZero, 0), complex(0, minusLeast))), "ok")
	for _, zero := range []complex64{0, minusBoth, complex(minusZero, 0), complex(0, minusZero)} {
		wantSame(t, deskWithBoth(a, polyOf(zero)), "div", "no")
		wantSame(t, deskWithBoth(polyOf(zero), polyOf(zero)), "div", "no")
	}
	// A quotient that is not finite, and a finite one with such a rest.
	wantSame(t, deskWithBoth(polyOf(1, 1), polyOf(complex(least, 0))), "div", "no")
	wantSame(t, deskWithBoth(polyOf(minusBoth, complex(greatest, 0)), polyOf(complex(greatest, 0), 0.5)), "div", "no")
	wantSame(t, deskWithBoth(polyOf(complex(-1, minusZero), complex(0x1p100, 0)), polyOf(complex(0x1p100, 0), 1)), "div", "no")
}

func TestLinesOfA(t *testing.T) {
	p := polyOf(6, complex(0, 4), 2)
	wantLine(t, deskWithA(p.Terms...), "slope", deskWithA(complex(0, 4), 4), "ok")
	wantLine(t, deskWithA(p.Terms...), "rise", deskWithA(0, 6, complex(0, 2), impl.ScaleComplex(2, by(1, 3))), "ok")
	wantLine(t, deskWithA(p.Terms...), "monic", deskWithA(3, complex(0, 2), 1), "ok")
	wantLine(t, deskWithA(p.Terms...), "back", deskWithA(2, complex(0, 4), 6), "ok")
	wantLine(t, deskWithA(minusBoth, 0, 1), "back", deskWithA(1), "ok")
	wantLine(t, deskWithA(5), "slope", deskWithA(0), "ok")
	wantLine(t, deskWithA(ones(16).Terms...), "rise", deskOf(polyOf(risen(16)...), newDesk().B, newDesk().Real, newDesk().Points...), "ok")
	for _, zero := range []complex64{0, minusBoth, complex(minusZero, 0)} {
		wantSame(t, deskWithA(zero), "monic", "no")
		wantSame(t, deskWithA(zero), "within", "no")
	}
	wantSame(t, deskWithA(ones(impl.MaxTerms).Terms...), "rise", "no")
	wantSame(t, deskWithA(1, 1, complex(greatest, minusZero)), "slope", "no")
	wantSame(t, deskWithA(1, complex(least, 0)), "monic", "no")
}

// risen are the terms of the rise of n terms of 1.
func risen(n int) []complex64 {
	terms := []complex64{0}
	for k := range n {
		terms = append(terms, complex(by(1, float32(k+1)), 0))
	}
	return terms
}

func TestLinesOfNumbers(t *testing.T) {
	d := deskWithA(1, 2, 3)
	wantLine(t, d, "shift "+wordOfOne, deskWithA(6, 8, 3), "ok")
	wantLine(t, d, "scale "+wordOfTwo, deskWithA(2, 4, 6), "ok")
	wantLine(t, d, "scale 0000000000000000", deskWithA(0), "ok")
	wantLine(t, d, "stretch "+wordOfTwo, deskWithA(1, 4, 12), "ok")
	wantLine(t, d, "scale 000000003f800000", deskWithA(complex(0, 1), complex(0, 2), complex(0, 3)), "ok")
	wantSame(t, d, "at "+wordOfTwo, "4188000000000000")
	wantSame(t, d, "at 000000003f800000", "c000000040000000")
	wantSame(t, d, "bound 0000000000000000", "35000000")
	wantSame(t, deskWithA(minusBoth), "at "+wordOfOne, "8000000080000000")
	for _, line := range []string{"shift ", "scale ", "stretch ", "at ", "bound "} {
		wantSame(t, deskWithA(complex(minusZero, 1), complex(2, minusZero), wordPair(wordOfGreat)), line+wordOfGreat, "no")
	}
}

// wordPair is the number of a word.
func wordPair(word string) complex64 {
	list, _ := impl.ReadComplex(word)
	return list[0]
}

// noNumberWords are texts of no single complex number with finite parts.
func noNumberWords() []string {
	words := append(noPairTexts(), "none", wordOfOne+","+wordOfTwo, wordOfOne+","+wordOfOne, repeatedText(wordOfOne, 256), repeatedText(wordOfOne, 257), "40A0000000000000", "0", "1", "-1")
	for _, x := range infinities() {
		words = append(words, pairsText(x))
	}
	return words
}

func TestWordsThatAreNoNumbers(t *testing.T) {
	d := deskWithA(complex(minusZero, 1), minusBoth, 3)
	for _, name := range []string{"shift", "scale", "stretch", "at", "bound"} {
		for _, word := range noNumberWords() {
			wantSame(t, d, name+" "+word, answerOf(word))
		}
	}
}

func TestLinesThatTellA(t *testing.T) {
	for n := 1; n <= impl.MaxTerms; n++ {
		wantSame(t, deskWithA(ones(n).Terms...), "degree", integersText(int64(n-1)))
	}
	wantSame(t, deskWithA(0), "degree", "-1")
	wantSame(t, deskWithA(minusBoth), "degree", "-1")
	wantSame(t, deskWithA(complex(0, 3), complex(-1.5, 0)), "within", "40400000")
	wantSame(t, deskWithA(0, 1), "within", "3f800000")
	wantSame(t, deskWithA(7), "within", "no")
	wantSame(t, deskWithA(complex(greatest, 0), complex(least, 0)), "within", "no")
}

func TestValuesAndPassing(t *testing.T) {
	d := deskOf(polyOf(1, 2), polyOf(1, 0, 1), realOf(1), 0, 1, complex(0, 1))
	wantSame(t, d, "values", pairsText(1, 3, complex(1, 2)))
	wantLine(t, d, "pass", deskOf(polyOf(1, 0, 1), d.B, d.Real, d.Points...), "ok")
	// Only as many terms as points are passed.
	d.Points = []complex64{1, -1}
	wantLine(t, d, "pass", deskOf(polyOf(2), d.B, d.Real, d.Points...), "ok")
	d.Points = []complex64{3}
	wantLine(t, d, "pass", deskOf(polyOf(10), d.B, d.Real, d.Points...), "ok")
	d.Points = []complex64{minusBoth}
	wantSame(t, d, "values", pairsText(1))
	// A stays as it is if B, or what passes its values, is not finite.
	great := deskOf(polyOf(minusBoth, 1), polyOf(1, complex(greatest, 0)), realOf(1), 1, 2)
	wantSame(t, great, "pass", "no")
	wantSame(t, deskOf(great.B, great.A, great.Real, great.Points...), "values", "no")
	// Next to each other, the rounding of values makes too great differences.
	wantSame(t, deskOf(great.A, polyOf(0, 0, 0x1p120), great.Real, 1.5, afterPair(1.5), afterPair(real(afterPair(1.5)))), "pass", "no")
	wantSame(t, deskOf(great.A, polyOf(complex(minusZero, 0)), great.Real, complex(least, 0), complex(0, least)), "values", pairsText(complex(least, 0), complex(0, least)))
	points := stepsBy(complex(0.25, 0), impl.MaxTerms)
	full := deskOf(polyOf(2, 4), polyOf(1, 8), realOf(1), points...)
	values := []complex64{}
	for k := range points {
		values = append(values, complex(float32(2+k), 0))
	}
	wantSame(t, full, "values", pairsText(values...))
	wantLine(t, full, "pass", deskOf(polyOf(1, 8), full.B, full.Real, points...), "ok")
}

// TestPointsThatAreEqual has points that no desk can have, so that nothing
// passes them.
func TestPointsThatAreEqual(t *testing.T) {
	for _, points := range [][]complex64{{1, 1}, {0, minusBoth}, {1, 2, 1}, {complex(0, 1), complex(minusZero, 1)}, {}, nil} {
		wantSame(t, newDesk(), "points "+pairsText(points...), "no")
		for _, line := range []string{"pass", "values", "points", "points " + wordOfOne} {
			after, output, ok := impl.DeskCommand(deskWithPoints(points...), line)
			wantNoDesk(t, line, after, ok)
			wantNoText(t, line, output, ok)
		}
	}
}

func TestFamilies(t *testing.T) {
	third := by(1, 3)
	for _, c := range []struct {
		line string
		want []complex64
	}{
		{"family 0 0", asPairs([]float32{1})}, {"family 0 1", asPairs([]float32{0, 1})}, {"family 0 3", asPairs([]float32{0, -3, 0, 4})}, {"family 1 1", asPairs([]float32{0, 2})},
		{"family 1 3", asPairs([]float32{0, -4, 0, 8})}, {"family 2 2", asPairs([]float32{-0.5, 0, 1.5})}, {"family 3 3", asPairs([]float32{0, -3, 0, 1})}, {"family 4 1", asPairs([]float32{1, -1})}, {"family 4 2", asPairs([]float32{1, -2, 0.5})},
		{"family 2 3", asPairs([]float32{0, -by(5, 3)*0.5 - by(2, 3), 0, by(5, 3) * 1.5})},
	} {
		wantLine(t, newDesk(), c.line, deskWithA(c.want...), "ok")
	}
	for kind := range int64(impl.MaxKinds) {
		for n := range int64(impl.MaxTerms) {
			p, _ := impl.FamilyPoly(kind, n)
			wantLine(t, newDesk(), "family "+integersText(kind)+" "+integersText(n), deskWithA(p.Terms...), "ok")
		}
	}
	d := deskWithA(minusBoth, complex(third, 0))
	for _, words := range []string{"-1 0", "0 -1", "5 0", "0 17", "5 17", "4 17", "5 16", "1000000000000000 0", "0 1000000000000000", "4294967296 0", "0 4294967296"} {
		wantSame(t, d, "family "+words, "no")
	}
}

func TestLinesOfReal(t *testing.T) {
	half := deskWithReal(realOf(-1, -1, 2))
	wantSame(t, half, "roots", "2")
	wantSame(t, half, "near", numbersText(-0.5, 1))
	wantSame(t, half, "gaps", "-4,0,1,0,4,1")
	wantSame(t, half, "ratio", "-1,2,1,1")
	none := deskWithReal(realOf(1, 0, 1))
	wantSame(t, none, "roots", "0")
	wantSame(t, none, "near", "none")
	wantSame(t, none, "gaps", "none")
	wantSame(t, none, "ratio", "none")
	wantSame(t, deskWithReal(realOf(-7)), "roots", "0")
	wantSame(t, deskWithReal(realOf(-7)), "gaps", "none")
	wantSame(t, deskWithReal(realOf(0, -1000)), "near", "b1000000")
	wantSame(t, deskWithReal(realOf(0, 0, 3)), "ratio", "0,1")
	wantSame(t, deskWithReal(realOf(999, 1000)), "ratio", "-999,1000")
	for _, r := range tooNearRoots() {
		wantSame(t, deskWithReal(r), "gaps", "no")
		wantSame(t, deskWithReal(r), "near", "no")
	}
	for _, r := range nearRoots() {
		gaps, _ := impl.IsolateRoots(r)
		numbers := []int64{}
		for _, g := range gaps {
			numbers = append(numbers, g.Low, g.High, g.Shift)
		}
		wantSame(t, deskWithReal(r), "gaps", integersText(numbers...))
		if !slices.Contains(numbers, impl.MaxShift) {
			t.Errorf("the roots of %v are not near", r)
		}
	}
}

func TestSigns(t *testing.T) {
	d := deskWithReal(realOf(-1, -1, 2))
	for words, want := range map[string]string{
		"0 1": "-1", "-1 2": "0", "1 1": "0", "2 1": "1", "3 3": "0", "-2 4": "0", "-500000 1000000": "0", "6 4": "1", "-1000000 1": "1", "1 1000000": "-1", "1000000 1000000": "0", "999999 1000000": "-1", "-1 1": "1",
		"1 0": "no", "0 0": "no", "1 -1": "no", "-1 -2": "no", "1000001 1": "no", "-1000001 1": "no", "1 1000001": "no", "1000001 1000001": "no", "1000000000000000 1": "no", "1 1000000000000000": "no", "4294967296 1": "no", "1 4294967297": "no",
	} {
		wantSame(t, d, "sign "+words, want)
	}
}

// TestWordsThatAreNoIntegers has texts that no number in decimal has.
func TestWordsThatAreNoIntegers(t *testing.T) {
	d := deskWithA(minusBoth, 1)
	for _, word := range []string{
		"", "+1", "-0", "00", "01", "001", "-01", "--1", "-", "+", "1.0", "1e0", "0x1", "1_0", "a", "1a", "a1", "\t1", "1\t", "1\n", "1\r", "1,", ",1", "1,1", "none", wordOfOne + "f", "\uff11", "\u0661", "\xff", "1\x00",
		"1000000000000001", "-1000000000000001", "9223372036854775807", "9223372036854775808", "-9223372036854775808", "-9223372036854775809", "18446744073709551616", "18446744073709551617", "36893488147419103233", strings.Repeat("1", 100), strings.Repeat("0", 20) + "1",
	} {
		for _, name := range []string{"family", "sign"} {
			wantSame(t, d, name+" "+word+" 1", "no")
			wantSame(t, d, name+" 1 "+word, "no")
			wantSame(t, d, name+" "+word+" "+word, "no")
		}
	}
}

// TestOtherLines has lines of no form of the table: with a word too few, one
// too many, an empty one, another name.
func TestOtherLines(t *testing.T) {
	d := deskOf(polyOf(minusBoth, 1), polyOf(complex(0, minusZero)), realOf(0, 5), minusBoth, 1)
	lines := []string{
		"", " ", "  ", "\n", "\t", "\x00", "\xff", "what", "no", "ok", "none", "0", "2", "help", wordOfOne, "c", "c " + wordOfOne, "A", "Add", "ADD", "aa", "ad", "addd", "root", "rootss", "signs", "sig", "families", "point", "reals",
		"points\t" + wordOfOne, "a\t" + wordOfOne, "a," + wordOfOne, "a=" + wordOfOne, "sign\t1\t2", "sign 1\t2", "sign 1,2", "sign 1/2", "family 0,1", "degree\n", "degree\r", "degree\x00", "\u00a0degree", "degree\u00a0", "add add", "a b " + wordOfOne, "a  " + wordOfOne,
	}
	for _, line := range goodLines() {
		words := strings.Split(line, " ")
		lines = append(lines, line+" x x", line+" ", line+"  ", " "+line, "  "+line, " "+line+" ", line+" 1 1", line+" 1 1 1", strings.ToUpper(line)+" ", "x"+line, "\t"+line, words[0]+"x", words[0]+"x "+wordOfOne, words[0]+"\t1", strings.ToUpper(words[0]))
		if len(words) == 3 {
			lines = append(lines, words[0], words[0]+" ", words[0]+" "+words[1], words[0]+" "+words[1]+" "+words[2]+" "+words[2], words[0]+"  "+words[1]+" "+words[2], words[0]+" "+words[1]+"  "+words[2])
		}
	}
	for _, name := range []string{"add", "mul", "compose", "div", "swap", "slope", "rise", "monic", "back", "degree", "within", "values", "pass", "roots", "near", "gaps", "ratio"} {
		lines = append(lines, name+" "+wordOfOne, name+" a", name+" 1", name+" ")
	}
	for _, name := range []string{"shift", "scale", "stretch", "at", "bound"} {
		lines = append(lines, name, name+" "+wordOfOne+" "+wordOfOne, name+" "+wordOfOne+" ", name+"  "+wordOfOne, name+"  ")
	}
	// Some of these are of a form, with an empty word.
	formed := []string{"a ", "b ", "real ", "points ", "shift ", "scale ", "stretch ", "at ", "bound ", "family  ", "sign  ", "family  1", "sign 1 ", "family  0", "sign  1"}
	for _, line := range formed {
		wantSame(t, d, line, "no")
	}
	for _, line := range lines {
		if !slices.Contains(formed, line) {
			wantSame(t, d, line, "what")
		}
	}
}

// TestLinesAtInvalidDesks has every form, done or not.
func TestLinesAtInvalidDesks(t *testing.T) {
	lines := append(goodLines(), "", "what", "a none", "a ", "sign 1 0", "points none", "real 0")
	for _, d := range invalidDesks() {
		for _, line := range lines {
			after, output, ok := impl.DeskCommand(d, line)
			wantNoDesk(t, plain("the desk behind ", line), after, ok)
			wantNoText(t, plain(line, " at ", tellDesk(d)), output, ok)
		}
	}
}

func TestLongLines(t *testing.T) {
	d := newDesk()
	for line, want := range map[string]string{
		strings.Repeat("a", 100000): "what", "a " + strings.Repeat("a", 100000): "no", strings.Repeat(" ", 100000): "what", "a" + strings.Repeat(" ", 100000): "what", "a " + strings.Repeat(wordOfOne+",", 10000): "no", "sign 1 " + strings.Repeat("1", 100000): "no",
		"real " + strings.Repeat("1,", 100000): "no", strings.Repeat("\xff", 100000): "what", "points " + strings.Repeat(",", 100000): "no",
	} {
		wantSame(t, d, line, want)
	}
}
