package impl

import (
	"math"
	"strconv"
	"strings"
)

// Limits of chapter 1.
const (
	MaxNumbers = 256
	MaxValue   = 1000000000000000
	MaxItems   = 64
	CheckSize  = 65003
)

const (
	maxBits        = 4294967295
	bitsOfNaN      = 2143289344
	digitsOfBits   = 8
	hexDigits      = "0123456789abcdef"
	textOfNone     = "none"
	textSeparator  = ","
	longestName    = 8
	checkFactor    = 911
	checkIncrement = 181
)

// In this file, float64(x*y) and float32(x*y) round a product on its own: the
// language lets a compiler fuse a product and a sum if it is not converted.

// SameNumber reports whether two numbers are the same.
func SameNumber(a, b float32) bool {
	return BitsOf(a) == BitsOf(b)
}

// IsFinite reports whether x is finite.
func IsFinite(x float32) bool {
	return isFinite64(float64(x))
}

func isFinite64(x float64) bool {
	return !math.IsNaN(x) && !math.IsInf(x, 0)
}

// BitsOf returns the bits of a number.
func BitsOf(x float32) int64 {
	if x != x {
		return bitsOfNaN
	}
	return int64(math.Float32bits(x))
}

// FromBits returns the number with the given bits.
func FromBits(n int64) (float32, bool) {
	if n < 0 || n > maxBits {
		return 0, false
	}
	return math.Float32frombits(uint32(n)), true
}

// NarrowNumber returns the nearest 32-bit number.
func NarrowNumber(x float64) float32 {
	return float32(x)
}

// IsSubnormal reports whether x is subnormal.
func IsSubnormal(x float32) bool {
	const leastNormal = 0x1p-126
	return x != 0 && math.Abs(float64(x)) < leastNormal
}

// FlushNumber returns x, but a zero if it is subnormal.
func FlushNumber(x float32) float32 {
	if !IsSubnormal(x) {
		return x
	}
	return float32(math.Copysign(0, float64(x)))
}

// SameComplex reports whether two complex numbers are the same.
func SameComplex(a, b complex64) bool {
	return SameNumber(real(a), real(b)) && SameNumber(imag(a), imag(b))
}

// IsFiniteComplex reports whether both parts are finite.
func IsFiniteComplex(x complex64) bool {
	return IsFinite(real(x)) && IsFinite(imag(x))
}

// NarrowComplex returns a number with narrowed parts.
func NarrowComplex(x complex128) complex64 {
	return complex(NarrowNumber(real(x)), NarrowNumber(imag(x)))
}

// MulComplex returns a product.
func MulComplex(x, y complex64) complex64 {
	return NarrowComplex(wideProduct(x, y))
}

// wideProduct tells the parts one by one, because the steps of the language's
// own product of complex numbers may be fused.
func wideProduct(x, y complex64) complex128 {
	a, b := float64(real(x)), float64(imag(x))
	c, d := float64(real(y)), float64(imag(y))
	return complex(float64(a*c)-float64(b*d), float64(a*d)+float64(b*c))
}

// ScaleComplex returns a product with a number.
func ScaleComplex(x complex64, by float32) complex64 {
	return complex(float32(real(x)*by), float32(imag(x)*by))
}

// ConjugateOf returns the conjugate.
func ConjugateOf(x complex64) complex64 {
	return complex(real(x), -imag(x))
}

func widePower(x complex64) float64 {
	a, b := float64(real(x)), float64(imag(x))
	return float64(a*a) + float64(b*b)
}

// PowerOf returns the power.
func PowerOf(x complex64) float32 {
	return NarrowNumber(widePower(x))
}

// LongOf returns the root of the power.
func LongOf(x complex64) float32 {
	return NarrowNumber(math.Sqrt(widePower(x)))
}

// QuotientOf returns a quotient.
func QuotientOf(x, y complex64) complex64 {
	product := wideProduct(x, ConjugateOf(y))
	power := widePower(y)
	// The language's own quotient of complex numbers treats zeros and
	// infinities specially, which IEEE 754 does not.
	return NarrowComplex(complex(real(product)/power, imag(product)/power))
}

// RootNumber returns the square root.
func RootNumber(x float32) float32 {
	return NarrowNumber(math.Sqrt(float64(x)))
}

func radiansOfTurn() float64 {
	return 6.283185307179586
}

// hasNoPlaces reports whether turns are so many that they are an integer, as
// all 64-bit numbers from 2 to the power of 52 on are.
func hasNoPlaces(turns float64) bool {
	return math.Abs(turns) >= 1<<52
}

// partOfTurn goes by an integer, which has no -0: taking +0 away keeps the sign
// of -0. The integer holds all turns of which hasNoPlaces is false.
func partOfTurn(turns float64) float64 {
	f := turns - float64(int64(turns))
	if f < 0 {
		f++
	}
	return f
}

func sineOf(turns float64) float64 {
	f := partOfTurn(turns)
	turned := f >= 0.5
	if turned {
		f -= 0.5
	}
	if f > 0.25 {
		f = 0.5 - f
	}
	z := float64(f * radiansOfTurn())
	u := float64(z * z)
	p := 1.0
	for k := 8; k >= 1; k-- {
		p = 1 - float64(u*p)/float64(2*k*(2*k+1))
	}
	sine := float64(z * p)
	if turned {
		return -sine
	}
	return sine
}

// SineTurns returns the sine of some turns.
func SineTurns(x float32) float32 {
	turns := float64(x)
	if !isFinite64(turns) {
		return float32(math.NaN())
	}
	if hasNoPlaces(turns) {
		return 0
	}
	return NarrowNumber(sineOf(turns))
}

// PhasorOf returns a point of the unit circle.
func PhasorOf(turns float64) complex64 {
	if !isFinite64(turns) {
		return NarrowComplex(complex(math.NaN(), math.NaN()))
	}
	if hasNoPlaces(turns) {
		return 1
	}
	f := partOfTurn(turns)
	quarters := 0
	for f >= 0.25 {
		f -= 0.25
		quarters++
	}
	c, s := sineOf(0.25-f), sineOf(f)
	switch quarters {
	case 1:
		return NarrowComplex(complex(0-s, c))
	case 2:
		return NarrowComplex(complex(0-c, 0-s))
	case 3:
		return NarrowComplex(complex(s, 0-c))
	}
	return NarrowComplex(complex(c, s))
}

// AngleOf returns the angle in turns.
func AngleOf(x complex64) float32 {
	return AngleTurns(imag(x), real(x))
}

// AngleTurns returns the angle of a point.
func AngleTurns(y, x float32) float32 {
	if !IsFinite(y) || !IsFinite(x) {
		return float32(math.NaN())
	}
	if y == 0 && x == 0 {
		return 0
	}
	a, b := math.Abs(float64(y)), math.Abs(float64(x))
	steep := a > b
	if steep {
		a, b = b, a
	}
	angle := angleOfSlope(a / b)
	if steep {
		angle = 0.25 - angle
	}
	if x < 0 {
		angle = 0.5 - angle
	}
	if y < 0 {
		angle = -angle
	}
	return NarrowNumber(angle)
}

// angleOfSlope takes a slope from 0 to 1. Three times, it halves the angle,
// because few terms of the sum are enough for an eighth of it.
func angleOfSlope(t float64) float64 {
	for range 3 {
		t = t / (1 + math.Sqrt(1+float64(t*t)))
	}
	u := float64(t * t)
	p := 0.0
	for k := 15; k >= 1; k -= 2 {
		p = 1/float64(k) - float64(u*p)
	}
	return float64(8*float64(t*p)) / radiansOfTurn()
}

// logarithmOf takes a finite number greater than 0.
func logarithmOf(x float64) float64 {
	const logarithmOfTwo = 0.6931471805599453
	e := 0
	for x >= 1.5 {
		x /= 2
		e++
	}
	for x < 0.75 {
		x *= 2
		e--
	}
	s := (x - 1) / (x + 1)
	u := float64(s * s)
	q := 0.0
	for k := 25; k >= 1; k -= 2 {
		q = 1/float64(k) + float64(u*q)
	}
	return float64(2*float64(s*q)) + float64(float64(e)*logarithmOfTwo)
}

// TenthsOf returns tenths of decibels.
func TenthsOf(power float32) (int64, bool) {
	const tenthsOfLogarithm = 43.42944819032518
	if !IsFinite(power) || power <= 0 {
		return 0, false
	}
	tenths := float64(logarithmOf(float64(power)) * tenthsOfLogarithm)
	return int64(math.Floor(tenths + 0.5)), true
}

// LogNumber returns the logarithm.
func LogNumber(x float32) float32 {
	switch {
	case x != x || x < 0:
		return float32(math.NaN())
	case x == 0:
		return float32(math.Inf(-1))
	case !IsFinite(x):
		return x
	}
	return NarrowNumber(logarithmOf(float64(x)))
}

// ExpNumber returns e to a power.
func ExpNumber(x float32) float32 {
	const greatest = 200
	switch {
	case x > greatest:
		return float32(math.Inf(1))
	case x < -greatest:
		return 0
	}
	t := float64(x) / 256
	p := 1.0
	for k := 12; k >= 1; k-- {
		p = 1 + float64(t*p)/float64(k)
	}
	for range 8 {
		p = float64(p * p)
	}
	return NarrowNumber(p)
}

// SumNumbers returns the sum from left to right.
func SumNumbers(list []float32) (float32, bool) {
	if len(list) > MaxNumbers {
		return 0, false
	}
	sum := float32(0)
	for _, x := range list {
		sum = float32(sum + x)
	}
	return sum, true
}

// arePairs reports whether lists of these lengths can be multiplied.
func arePairs(a, b int) bool {
	return a == b && a <= MaxNumbers
}

// DotNumbers returns the sum of products.
func DotNumbers(a, b []float32) (float32, bool) {
	if !arePairs(len(a), len(b)) {
		return 0, false
	}
	sum := float32(0)
	for i, x := range a {
		sum = float32(sum + float32(x*b[i]))
	}
	return sum, true
}

// SumComplex returns the sum from left to right.
func SumComplex(list []complex64) (complex64, bool) {
	if len(list) > MaxNumbers {
		return 0, false
	}
	sum := complex64(0)
	for _, x := range list {
		sum += x
	}
	return sum, true
}

// DotComplex returns the sum of products.
func DotComplex(a, b []complex64) (complex64, bool) {
	if !arePairs(len(a), len(b)) {
		return 0, false
	}
	sum := complex64(0)
	for i, x := range a {
		sum += MulComplex(x, b[i])
	}
	return sum, true
}

// DotConjugate returns the sum of products with conjugates.
func DotConjugate(a, b []complex64) (complex64, bool) {
	if !arePairs(len(a), len(b)) {
		return 0, false
	}
	sum := complex64(0)
	for i, x := range a {
		sum += MulComplex(ConjugateOf(x), b[i])
	}
	return sum, true
}

// PowersOf returns the sum of powers.
func PowersOf(list []complex64) (float32, bool) {
	if len(list) > MaxNumbers {
		return 0, false
	}
	sum := 0.0
	for _, x := range list {
		sum += widePower(x)
	}
	return NarrowNumber(sum), true
}

// writeItems makes the text of a list of at most so many items, where an item
// may have no text.
func writeItems[T any](list []T, most int, write func(T) (string, bool)) (string, bool) {
	if len(list) > most {
		return "", false
	}
	if len(list) == 0 {
		return textOfNone, true
	}
	texts := make([]string, 0, len(list))
	for _, item := range list {
		text, ok := write(item)
		if !ok {
			return "", false
		}
		texts = append(texts, text)
	}
	return strings.Join(texts, textSeparator), true
}

// readItems is the opposite of writeItems.
func readItems[T any](s string, most int, read func(string) (T, bool)) ([]T, bool) {
	if s == textOfNone {
		return nil, true
	}
	if strings.Count(s, textSeparator) >= most {
		return nil, false
	}
	texts := strings.Split(s, textSeparator)
	list := make([]T, 0, len(texts))
	for _, text := range texts {
		item, ok := read(text)
		if !ok {
			return nil, false
		}
		list = append(list, item)
	}
	return list, true
}

func writeNumber(x float32) (string, bool) {
	bits := BitsOf(x)
	var digits [digitsOfBits]byte
	for i := digitsOfBits - 1; i >= 0; i-- {
		digits[i] = hexDigits[bits%16]
		bits /= 16
	}
	return string(digits[:]), true
}

func readNumber(s string) (float32, bool) {
	if len(s) != digitsOfBits {
		return 0, false
	}
	bits := int64(0)
	for _, r := range s {
		digit, ok := digitOf(r)
		if !ok {
			return 0, false
		}
		bits = bits*16 + digit
	}
	x, ok := FromBits(bits)
	// Not-a-numbers have many bits, but only one text.
	if !ok || BitsOf(x) != bits {
		return 0, false
	}
	return x, true
}

func digitOf(r rune) (int64, bool) {
	switch {
	case r >= '0' && r <= '9':
		return int64(r - '0'), true
	case r >= 'a' && r <= 'f':
		return int64(r-'a') + 10, true
	}
	return 0, false
}

func writeParts(x complex64) (string, bool) {
	re, _ := writeNumber(real(x))
	im, _ := writeNumber(imag(x))
	return re + im, true
}

func readParts(s string) (complex64, bool) {
	if len(s) != 2*digitsOfBits {
		return 0, false
	}
	re, ok := readNumber(s[:digitsOfBits])
	if !ok {
		return 0, false
	}
	im, ok := readNumber(s[digitsOfBits:])
	if !ok {
		return 0, false
	}
	return complex(re, im), true
}

// NumbersText returns the text of numbers.
func NumbersText(list []float32) (string, bool) {
	return writeItems(list, MaxNumbers, writeNumber)
}

// ReadNumbers returns the numbers with the given text.
func ReadNumbers(s string) ([]float32, bool) {
	return readItems(s, MaxNumbers, readNumber)
}

// ComplexText returns the text of complex numbers.
func ComplexText(list []complex64) (string, bool) {
	return writeItems(list, MaxNumbers, writeParts)
}

// ReadComplex returns the complex numbers with the given text.
func ReadComplex(s string) ([]complex64, bool) {
	return readItems(s, MaxNumbers, readParts)
}

// IsName reports whether s is a name.
func IsName(s string) bool {
	if len(s) < 1 || len(s) > longestName {
		return false
	}
	for _, r := range s {
		if r < 'a' || r > 'z' {
			return false
		}
	}
	return true
}

// Decimal returns n in decimal.
func Decimal(n int64) string {
	return strconv.FormatInt(n, 10)
}

func isValue(n int64) bool {
	return n >= -MaxValue && n <= MaxValue
}

// ReadDecimal returns the number with the given decimal text.
func ReadDecimal(s string) (int64, bool) {
	n, err := strconv.ParseInt(s, 10, 64)
	// The library also reads texts that Decimal does not make: +1, 01, -0.
	if err != nil || !isValue(n) || Decimal(n) != s {
		return 0, false
	}
	return n, true
}

func writeValue(n int64) (string, bool) {
	if !isValue(n) {
		return "", false
	}
	return Decimal(n), true
}

// ListText returns the text of a list.
func ListText(list []int64) (string, bool) {
	return writeItems(list, MaxItems, writeValue)
}

// ReadList returns the list with the given text.
func ReadList(s string) ([]int64, bool) {
	return readItems(s, MaxItems, ReadDecimal)
}

// CheckOf returns the check number of a text.
func CheckOf(start int64, s string) (int64, bool) {
	if start < 0 || start >= CheckSize {
		return 0, false
	}
	check := start
	for i := range len(s) {
		check = (checkFactor*check + int64(s[i]) + checkIncrement) % CheckSize
	}
	return check, true
}
