package tests

import (
	"strings"
	"testing"

	"loop.example/g01358/impl"
)

func TestValidDesk(t *testing.T) {
	for _, d := range validDesks() {
		if !impl.ValidDesk(d) {
			t.Errorf("%s is valid", tellDesk(d))
		}
	}
	for _, d := range invalidDesks() {
		if impl.ValidDesk(d) {
			t.Errorf("%s is not valid", tellDesk(d))
		}
	}
}

func TestNewDesk(t *testing.T) {
	d := impl.NewDesk()
	wantDesk(t, "NewDesk", d, true, newDesk())
	spoilDesk(d)
	wantDesk(t, "NewDesk behind another one that is changed", impl.NewDesk(), true, newDesk())
}

// bentDesks differ from the new desk in one place, to the last bit.
func bentDesks() []impl.Desk {
	return []impl.Desk{
		deskWithA(-1, 0), deskWithA(-1, 0, 1, 0), deskWithA(-1, complex(0, minusZero), 1), deskWithA(-1, complex(minusZero, 0), 1), deskWithA(-1, complex(least, 0), 1), deskWithA(-1, 0, afterPair(1)),
		deskWithBoth(newDesk().A, polyOf(-1)), deskWithBoth(newDesk().A, polyOf(-1, 1, 0)), deskWithBoth(newDesk().A, polyOf(complex(-1, minusZero), 1)), deskWithBoth(newDesk().A, polyOf(1, -1)),
		deskWithReal(realOf(-2, 0)), deskWithReal(realOf(-2, 0, 1, 0)), deskWithReal(realOf(-2, 0, 2)), deskWithReal(realOf(2, 0, 1)), deskWithReal(realOf()),
		deskWithPoints(0, 1), deskWithPoints(0, 1, 2, 3), deskWithPoints(0, 2, 1), deskWithPoints(minusBoth, 1, 2), deskWithPoints(complex(0, minusZero), 1, 2), deskWithPoints(0, 1, afterPair(2)), deskWithPoints(),
		deskWithBoth(newDesk().B, newDesk().A), {}, {A: newDesk().A}, {Points: newDesk().Points},
	}
}

func TestSameDesk(t *testing.T) {
	all := append(append(validDesks(), invalidDesks()...), bentDesks()...)
	for i, a := range all {
		for k, b := range all {
			if want := sameDesk(a, b); impl.SameDesk(a, b) != want {
				t.Errorf("SameDesk of %d, %s, and %d, %s, is not %v", i, tellDesk(a), k, tellDesk(b), want)
			}
		}
	}
	for _, d := range bentDesks() {
		if impl.SameDesk(newDesk(), d) || impl.SameDesk(d, newDesk()) {
			t.Errorf("%s is not the same as the new desk", tellDesk(d))
		}
	}
	// All not-a-numbers are one value, and nil and empty lists are, too.
	for _, pair := range [][2]impl.Desk{
		{deskWithA(complex(nan, 1)), deskWithA(complex(oddNaN, 1))}, {deskWithPoints(complex(1, nan)), deskWithPoints(complex(1, quietNaN))},
		{deskOf(polyOf(), polyOf(), realOf()), deskOf(polyOf([]complex64{}...), polyOf([]complex64{}...), realOf([]int64{}...), []complex64{}...)},
	} {
		if !impl.SameDesk(pair[0], pair[1]) || !impl.SameDesk(pair[1], pair[0]) {
			t.Errorf("%s and %s are the same", tellDesk(pair[0]), tellDesk(pair[1]))
		}
	}
	if impl.SameDesk(deskWithPoints(complex(nan, 1)), deskWithPoints(complex(nan, 2))) {
		t.Errorf("points with a part that is no number are compared by the other one")
	}
}

func TestPolyText(t *testing.T) {
	for _, p := range validPolys() {
		got, ok := impl.PolyText(p)
		wantText(t, plain("PolyText ", p), got, ok, pairsText(p.Terms...))
		back, ok := impl.ReadPoly(got)
		wantPoly(t, "ReadPoly "+got, back, ok, p.Terms...)
	}
	for _, p := range invalidPolys() {
		got, ok := impl.PolyText(p)
		wantNoText(t, plain("PolyText ", p), got, ok)
		back, ok := impl.ReadPoly(pairsText(p.Terms...))
		wantNoPoly(t, plain("ReadPoly of the text of ", p), back, ok)
	}
	got, ok := impl.PolyText(polyOf(complex(minusZero, least), complex(-1, greatest)))
	wantText(t, "PolyText", got, ok, "8000000000000001,bf8000007f7fffff")
}

// noPairTexts are the texts of no list of complex numbers.
func noPairTexts() []string {
	const one = "3f80000000000000"
	texts := []string{
		"", ",", one + ",", "," + one, one + ",," + one, one + " " + one, " " + one, one + " ", one + "," + " " + one, one + one, one[1:], one + "0", strings.ToUpper(one), "3F80000000000000",
		"None", "NONE", "none,", "none,none", "none," + one, one + ",none", "1", "3f800000", "7fc0000100000000", "000000007fc00001", "ffc0000000000000", "7f80000100000000", "3f8000000000000g",
		"+3f8000000000000", "0x3f800000000000", "3f80000000000000\n", "\n" + one, one + "\x00", "\u0663f80000000000000",
	}
	for _, bad := range badBits() {
		if bad != "None" && bad != "NONE" {
			texts = append(texts, bad+"00000000", "00000000"+bad)
		}
	}
	return texts
}

// noPolyTexts are those of no valid polynomial.
func noPolyTexts() []string {
	const one, zero = "3f80000000000000", "0000000000000000"
	texts := append(noPairTexts(), "none", repeatedText(one, impl.MaxTerms+1), repeatedText(one, 256), repeatedText(one, 257), repeatedText(zero, 2), repeatedText(zero, impl.MaxTerms))
	for _, last := range []string{zero, "8000000080000000", "8000000000000000", "0000000080000000"} {
		texts = append(texts, one+","+last, last+","+last, repeatedText(one, impl.MaxTerms-1)+","+last)
	}
	for _, x := range infinities() {
		texts = append(texts, pairsText(x), pairsText(x, 1), pairsText(1, x), pairsText(1, x, 1))
	}
	return texts
}

func TestReadPoly(t *testing.T) {
	for _, p := range []impl.Poly{polyOf(0), polyOf(minusBoth), polyOf(complex(0, minusZero)), polyOf(complex(minusZero, 0)), polyOf(0, complex(0, 1)), polyOf(minusBoth, complex(minusZero, least)), ones(impl.MaxTerms), power(impl.MaxTerms-1, complex(0, -1))} {
		got, ok := impl.ReadPoly(pairsText(p.Terms...))
		wantPoly(t, plain("ReadPoly of the text of ", p), got, ok, p.Terms...)
	}
	for _, text := range noPolyTexts() {
		got, ok := impl.ReadPoly(text)
		wantNoPoly(t, plain("ReadPoly ", []byte(text)), got, ok)
	}
}

func TestRealText(t *testing.T) {
	for _, r := range validReals() {
		got, ok := impl.RealText(r)
		wantText(t, plain("RealText ", r), got, ok, integersText(r.Terms...))
		back, ok := impl.ReadReal(got)
		wantReal(t, "ReadReal "+got, back, ok, r.Terms...)
	}
	for _, r := range invalidReals() {
		got, ok := impl.RealText(r)
		wantNoText(t, plain("RealText ", r), got, ok)
		back, ok := impl.ReadReal(integersText(r.Terms...))
		wantNoReal(t, plain("ReadReal of the text of ", r), back, ok)
	}
}

// noRealTexts are those of no valid polynomial of integers.
func noRealTexts() []string {
	return []string{
		"", ",", "1,", ",1", "1,,1", "1, 1", " 1", "1 ", "1,2 ", "none", "None", "none,1", "1,none", "+1", "01", "1,02", "-0", "-0,1", "00", "00,1", "--1", "1-", "-", "1,-", "1e2", "0x1", "1.0", "1_0", "a", "1,a", "1;2", "1\n", "1,2\n",
		"0", "0,0", "1,0", "1,2,0", "-2,0,1,0", repeatedText("1", impl.MaxReal+1), repeatedText("1", 64), repeatedText("1", 65), repeatedText("0", impl.MaxReal), "1001", "-1001", "1001,1", "1,-1001", "1,2,1001",
		"1000000000000000", "1000000000000001", "-1000000000000000", "9223372036854775807", "9223372036854775808", "-9223372036854775808", "18446744073709551617", "1,18446744073709551617", "99999999999999999999999", "4294967297",
		"\uff11", "\u0661", "1\x00", "\xff",
	}
}

func TestReadReal(t *testing.T) {
	for _, r := range []impl.Real{realOf(1), realOf(-1000, 1000), realOf(0, 0, -1), realOnes(impl.MaxReal), realOf(repeated[int64](-1000, impl.MaxReal)...), realPower(impl.MaxReal-1, 1)} {
		got, ok := impl.ReadReal(integersText(r.Terms...))
		wantReal(t, plain("ReadReal of the text of ", r), got, ok, r.Terms...)
	}
	for _, text := range noRealTexts() {
		got, ok := impl.ReadReal(text)
		wantNoReal(t, plain("ReadReal ", []byte(text)), got, ok)
	}
}
