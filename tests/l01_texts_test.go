package tests

import (
	"math"
	"strings"
	"testing"

	"loop.example/g01358/impl"
)

const (
	textOfOne   = "3f800000"
	textOfPair  = "3f800000c0000000"
	mostNumbers = impl.MaxNumbers
)

// repeatedText returns the text of n equal items.
func repeatedText(item string, n int) string {
	return strings.Join(repeated(item, n), ",")
}

func TestNumbersText(t *testing.T) {
	cases := []struct {
		list []float32
		want string
	}{
		{nil, "none"},
		{[]float32{}, "none"},
		{[]float32{plusZero}, "00000000"},
		{[]float32{minusZero}, "80000000"},
		{[]float32{1, -2}, "3f800000,c0000000"},
		{[]float32{least, greatSub, leastNorm, greatest}, "00000001,007fffff,00800000,7f7fffff"},
		{[]float32{plusInf, minusInf}, "7f800000,ff800000"},
		{[]float32{nan, oddNaN, quietNaN}, "7fc00000,7fc00000,7fc00000"},
		{[]float32{math.Float32frombits(0x12345678), math.Float32frombits(0x9abcdef0)}, "12345678,9abcdef0"},
		{repeated[float32](1, mostNumbers), repeatedText(textOfOne, mostNumbers)},
	}
	for _, c := range cases {
		if got, ok := impl.NumbersText(c.list); !ok || got != c.want {
			t.Errorf("NumbersText(%v) = %q, %v, want %q", c.list, got, ok, c.want)
		}
		list, ok := impl.ReadNumbers(c.want)
		if !ok || len(list) != len(c.list) {
			t.Errorf("ReadNumbers(%q) = %v, %v", c.want, list, ok)
			continue
		}
		for i, x := range list {
			wantFloat(t, "ReadNumbers", x, c.list[i])
		}
	}
	if got, ok := impl.NumbersText(repeated[float32](1, mostNumbers+1)); ok || got != "" {
		t.Errorf("NumbersText of a long list: %q, %v", got, ok)
	}
}

func TestComplexText(t *testing.T) {
	cases := []struct {
		list []complex64
		want string
	}{
		{nil, "none"},
		{[]complex64{}, "none"},
		{[]complex64{complex(plusZero, minusZero)}, "0000000080000000"},
		{[]complex64{complex(minusZero, plusZero)}, "8000000000000000"},
		{[]complex64{1}, "3f80000000000000"},
		{[]complex64{1, complex(0, -2)}, "3f80000000000000,00000000c0000000"},
		{[]complex64{complex(least, minusSub), complex(minusGreat, leastNorm)}, "00000001807fffff,ff7fffff00800000"},
		{[]complex64{complex(minusInf, plusInf), complex(oddNaN, quietNaN)}, "ff8000007f800000,7fc000007fc00000"},
		{repeated[complex64](complex(1, -2), mostNumbers), repeatedText(textOfPair, mostNumbers)},
	}
	for _, c := range cases {
		if got, ok := impl.ComplexText(c.list); !ok || got != c.want {
			t.Errorf("ComplexText(%v) = %q, %v, want %q", c.list, got, ok, c.want)
		}
		list, ok := impl.ReadComplex(c.want)
		if !ok || len(list) != len(c.list) {
			t.Errorf("ReadComplex(%q) = %v, %v", c.want, list, ok)
			continue
		}
		for i, x := range list {
			wantPair(t, "ReadComplex", x, c.list[i])
		}
	}
	if got, ok := impl.ComplexText(repeated[complex64](1, mostNumbers+1)); ok || got != "" {
		t.Errorf("ComplexText of a long list: %q, %v", got, ok)
	}
}

// badBits are texts that are nearly 8 hexadecimal digits.
func badBits() []string {
	return []string{
		"", "0", "3f80000", "3f8000000", "3F800000", "3f80000g", "/f800000", ":f800000", "`f800000", "Gf800000",
		" 3f80000", "3f80000 ", "+3f80000", "-3f80000", "0x3f8000", "3f8_0000", "3f8000\u00e9", "3f80000\xff", "3f80000\x00",
		"\u0663\u0663\u0663\u0663", "\uff11\uff11aa", "None", "NONE", "7fc00001", "7f800001", "ffc00000", "ff800001", "ffffffff", "7fffffff",
	}
}

func TestReadNumbersFails(t *testing.T) {
	texts := []string{
		"none,", ",none", "none,none", "none ", "nonenone", "none," + textOfOne, textOfOne + ",none", ",", ",,",
		textOfOne + ",", "," + textOfOne, textOfOne + ",," + textOfOne, textOfOne + ", " + textOfOne,
		textOfOne + ";" + textOfOne, textOfOne + textOfOne, textOfOne + "\n",
		repeatedText(textOfOne, mostNumbers+1), repeatedText(textOfOne, mostNumbers) + ",",
	}
	for _, bad := range badBits() {
		texts = append(texts, bad, bad+","+textOfOne, textOfOne+","+bad)
	}
	for _, s := range texts {
		if list, ok := impl.ReadNumbers(s); ok || list != nil {
			t.Errorf("ReadNumbers(%q) = %v, %v", s, list, ok)
		}
	}
}

func TestReadComplexFails(t *testing.T) {
	texts := []string{
		"none,", ",none", "none,none", "nonenone", "nonenonenonenone", "none," + textOfPair, textOfPair + ",none", ",", ",,",
		textOfPair + ",", "," + textOfPair, textOfPair + ",," + textOfPair, textOfPair + ", " + textOfPair,
		textOfOne, textOfOne + "," + textOfOne, textOfPair + "0", textOfPair + textOfOne, textOfPair + textOfPair,
		repeatedText(textOfPair, mostNumbers+1), repeatedText(textOfPair, mostNumbers) + ",",
	}
	for _, bad := range badBits() {
		texts = append(texts, bad+textOfOne, textOfOne+bad, textOfPair+","+bad+textOfOne, textOfOne+bad+","+textOfPair)
	}
	for _, s := range texts {
		if list, ok := impl.ReadComplex(s); ok || list != nil {
			t.Errorf("ReadComplex(%q) = %v, %v", s, list, ok)
		}
	}
}

// TestDigitsOfAllBytes reads every byte at every place of a number.
func TestDigitsOfAllBytes(t *testing.T) {
	for place := range len(textOfOne) {
		for b := range 256 {
			text := []byte("12345678")
			text[place] = byte(b)
			list, ok := impl.ReadNumbers(string(text))
			isDigit := strings.IndexByte("0123456789abcdef", byte(b)) >= 0
			if ok != isDigit {
				t.Errorf("ReadNumbers(%q) = %v, %v", text, list, ok)
			}
			if back, _ := impl.NumbersText(list); ok && back != string(text) {
				t.Errorf("ReadNumbers(%q) has the text %q", text, back)
			}
		}
	}
}

func TestIsName(t *testing.T) {
	for _, s := range []string{"a", "z", "ring", "abcdefgh", "zzzzzzzz"} {
		if !impl.IsName(s) {
			t.Errorf("%q is no name", s)
		}
	}
	bad := []string{
		"", "abcdefghi", "A", "aB", "`", "{", "a`", "z{", "a1", "1a", "a b", " a", "a ", "a\n", "a\x00",
		"\xff", "a\xff", "\u00e9", "a\u00df", "\u0430", "a_b", "a-b", strings.Repeat("a", 1000),
	}
	for _, s := range bad {
		if impl.IsName(s) {
			t.Errorf("%q is a name", s)
		}
	}
}

func TestDecimal(t *testing.T) {
	cases := []struct {
		n    int64
		want string
	}{
		{0, "0"}, {7, "7"}, {-4, "-4"}, {10, "10"}, {-100, "-100"}, {1234567890, "1234567890"},
		{impl.MaxValue, "1000000000000000"}, {-impl.MaxValue, "-1000000000000000"},
		{impl.MaxValue + 1, "1000000000000001"}, {-impl.MaxValue - 1, "-1000000000000001"},
		{math.MaxInt64, "9223372036854775807"}, {math.MinInt64, "-9223372036854775808"},
	}
	for _, c := range cases {
		if got := impl.Decimal(c.n); got != c.want {
			t.Errorf("Decimal(%d) = %q", c.n, got)
		}
		within := c.n >= -impl.MaxValue && c.n <= impl.MaxValue
		n, ok := impl.ReadDecimal(c.want)
		if ok != within || ok && n != c.n || !ok && n != 0 {
			t.Errorf("ReadDecimal(%q) = %d, %v", c.want, n, ok)
		}
	}
}

// badDecimals are texts that are nearly numbers in decimal.
func badDecimals() []string {
	return []string{
		"", "-", "+", "+1", "-0", "+0", "00", "01", "-01", "--1", "1-", " 1", "1 ", "1\n", "1_000", "_1", "0x1", "1e3", "1.0", "1.",
		"a", "1a", "\u0661", "\uff11", "\u22121", "1\xff", "1\x00", "1000000000000001", "-1000000000000001",
		"9223372036854775807", "9223372036854775808", "-9223372036854775808", "-9223372036854775809", "18446744073709551617", strings.Repeat("1", 400),
	}
}

func TestReadDecimalFails(t *testing.T) {
	for _, s := range append(badDecimals(), "none", "1,2") {
		if n, ok := impl.ReadDecimal(s); ok || n != 0 {
			t.Errorf("ReadDecimal(%q) = %d, %v", s, n, ok)
		}
	}
}

func TestListText(t *testing.T) {
	cases := []struct {
		list []int64
		want string
	}{
		{nil, "none"},
		{[]int64{}, "none"},
		{[]int64{0}, "0"},
		{[]int64{3, -1, 0, 3}, "3,-1,0,3"},
		{[]int64{impl.MaxValue, -impl.MaxValue}, "1000000000000000,-1000000000000000"},
		{repeated[int64](-5, impl.MaxItems), repeatedText("-5", impl.MaxItems)},
	}
	for _, c := range cases {
		if got, ok := impl.ListText(c.list); !ok || got != c.want {
			t.Errorf("ListText(%v) = %q, %v, want %q", c.list, got, ok, c.want)
		}
		list, ok := impl.ReadList(c.want)
		if !ok || len(list) != len(c.list) {
			t.Errorf("ReadList(%q) = %v, %v", c.want, list, ok)
			continue
		}
		for i, n := range list {
			if n != c.list[i] {
				t.Errorf("ReadList(%q) = %v", c.want, list)
			}
		}
	}
}

func TestListTextFails(t *testing.T) {
	lists := [][]int64{
		repeated[int64](1, impl.MaxItems+1), {impl.MaxValue + 1}, {-impl.MaxValue - 1},
		{1, 2, math.MaxInt64}, {math.MinInt64, 1},
	}
	for _, list := range lists {
		if got, ok := impl.ListText(list); ok || got != "" {
			t.Errorf("ListText(%v) = %q, %v", list, got, ok)
		}
	}
	texts := []string{
		"None", "none,", ",none", "none,none", "none,1", "1,none", "none ", ",", "1,", ",1", "1,,2", "1, 2", "1;2", "[1,2]",
		repeatedText("1", impl.MaxItems+1), repeatedText("1", impl.MaxItems) + ",",
	}
	for _, bad := range badDecimals() {
		texts = append(texts, bad, "1,"+bad, bad+",1")
	}
	for _, s := range texts {
		if list, ok := impl.ReadList(s); ok || list != nil {
			t.Errorf("ReadList(%q) = %v, %v", s, list, ok)
		}
	}
}

func TestCheckOf(t *testing.T) {
	cases := []struct {
		start int64
		s     string
		want  int64
	}{
		{0, "", 0},
		{65002, "", 65002},
		{0, "a", 278},
		{0, "\x00", 181},
		{0, "\xff", 436},
		{1, "\x00", 1092},
		{65002, "\x00", 64273},
		{0, "ab", 58528},
		{0, "\u00e9\xff", 30167},
	}
	for _, c := range cases {
		if got, ok := impl.CheckOf(c.start, c.s); !ok || got != c.want {
			t.Errorf("CheckOf(%d, %q) = %d, %v, want %d", c.start, c.s, got, ok, c.want)
		}
	}
	for _, start := range []int64{-1, impl.CheckSize, impl.CheckSize + 1, math.MinInt64, math.MaxInt64} {
		for _, s := range []string{"", "a"} {
			if got, ok := impl.CheckOf(start, s); ok || got != 0 {
				t.Errorf("CheckOf(%d, %q) = %d, %v", start, s, got, ok)
			}
		}
	}
}

func TestCheckOfParts(t *testing.T) {
	s := strings.Repeat("polynomials \x00\xff\n", 1000)
	whole, ok := impl.CheckOf(17, s)
	if !ok || whole < 0 || whole >= impl.CheckSize {
		t.Fatalf("CheckOf a long text: %d, %v", whole, ok)
	}
	for _, at := range []int{0, 1, 12, 5000, len(s)} {
		first, _ := impl.CheckOf(17, s[:at])
		if both, ok := impl.CheckOf(first, s[at:]); !ok || both != whole {
			t.Errorf("CheckOf in parts: %d, %v, want %d", both, ok, whole)
		}
	}
}
