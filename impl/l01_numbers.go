package impl

import (
	"math"
	"strconv"
	"strings"
)

// Limits of chapter 1.
const (
	MaxNumbers = 256
	MaxValue   = 1000000000000000
	MaxItems   = 64
	CheckSize  = 65003
)

// notANumberBits stands for each not-a-number, whatever bits it has.
const notANumberBits = 2143289344

// wholeTurns is 2 to the power of 52: from there on, each 64-bit number is an integer.
const wholeTurns = 1 << 52

// noItems is the text of an empty list.
const noItems = "none"

// numberDigits is how many hexadecimal digits a 32-bit number has.
const numberDigits = 8

// nameBytes is how many bytes a name has at most.
const nameBytes = 8

// In this file, each product that may be added to something is converted to its
// own type first: Go may round a product and a sum only once, together, otherwise.

// SameNumber reports whether two numbers are the same.
func SameNumber(a, b float32) bool {
	return BitsOf(a) == BitsOf(b)
}

// IsFinite reports whether x is neither an infinity nor a not-a-number.
func IsFinite(x float32) bool {
	return isFiniteWide(float64(x))
}

// isFiniteWide reports whether a 64-bit number is finite.
func isFiniteWide(x float64) bool {
	return !math.IsNaN(x) && !math.IsInf(x, 0)
}

// BitsOf returns the bits of a number, the same ones for each not-a-number.
func BitsOf(x float32) int64 {
	if math.IsNaN(float64(x)) {
		return notANumberBits
	}
	return int64(math.Float32bits(x))
}

// FromBits returns the number with the given bits.
func FromBits(n int64) (float32, bool) {
	if n < 0 || n > math.MaxUint32 {
		return 0, false
	}
	return math.Float32frombits(uint32(n)), true
}

// NarrowNumber returns the nearest 32-bit number, with ties to even.
func NarrowNumber(x float64) float32 {
	return float32(x)
}

// IsSubnormal reports whether x is not zero and nearer to 0 than 2 to the power of -126.
func IsSubnormal(x float32) bool {
	return x != 0 && math.Abs(float64(x)) < 0x1p-126
}

// FlushNumber returns x, but a zero with the sign of x if it is subnormal.
func FlushNumber(x float32) float32 {
	if IsSubnormal(x) {
		return NarrowNumber(math.Copysign(0, float64(x)))
	}
	return x
}

// SameComplex reports whether both parts of two complex numbers are the same.
func SameComplex(a, b complex64) bool {
	return SameNumber(real(a), real(b)) && SameNumber(imag(a), imag(b))
}

// IsFiniteComplex reports whether both parts are finite.
func IsFiniteComplex(x complex64) bool {
	return IsFinite(real(x)) && IsFinite(imag(x))
}

// NarrowComplex returns a number with narrowed parts.
func NarrowComplex(x complex128) complex64 {
	return complex(NarrowNumber(real(x)), NarrowNumber(imag(x)))
}

// wideProduct returns a product with parts that are not narrowed.
func wideProduct(x, y complex64) complex128 {
	a, b := float64(real(x)), float64(imag(x))
	c, d := float64(real(y)), float64(imag(y))
	return complex(float64(a*c)-float64(b*d), float64(a*d)+float64(b*c))
}

// MulComplex returns a product.
func MulComplex(x, y complex64) complex64 {
	return NarrowComplex(wideProduct(x, y))
}

// mulNumbers returns the product of two numbers, rounded on its own.
func mulNumbers(x, y float32) float32 {
	return float32(x * y)
}

// ScaleComplex returns a product with a number.
func ScaleComplex(x complex64, by float32) complex64 {
	return complex(mulNumbers(real(x), by), mulNumbers(imag(x), by))
}

// ConjugateOf returns the conjugate.
func ConjugateOf(x complex64) complex64 {
	return complex(real(x), -imag(x))
}

// widePower returns the power, not narrowed.
func widePower(x complex64) float64 {
	a, b := float64(real(x)), float64(imag(x))
	return float64(a*a) + float64(b*b)
}

// PowerOf returns the power.
func PowerOf(x complex64) float32 {
	return NarrowNumber(widePower(x))
}

// LongOf returns the root of the power.
func LongOf(x complex64) float32 {
	return NarrowNumber(math.Sqrt(widePower(x)))
}

// QuotientOf returns a quotient, for which a zero y divides both parts by zero.
func QuotientOf(x, y complex64) complex64 {
	product, power := wideProduct(x, ConjugateOf(y)), widePower(y)
	return NarrowComplex(complex(real(product)/power, imag(product)/power))
}

// RootNumber returns the square root.
func RootNumber(x float32) float32 {
	return NarrowNumber(math.Sqrt(float64(x)))
}

// turnFraction returns what finite turns, nearer to 0 than wholeTurns, are
// beyond the whole ones. The way through an integer makes a zero that is taken
// away +0, so that -0 stays -0.
func turnFraction(turns float64) float64 {
	rest := turns - float64(int64(turns))
	if rest < 0 {
		rest += 1
	}
	return rest
}

// sineOf returns the sine of finite turns that are nearer to 0 than wholeTurns.
func sineOf(turns float64) float64 {
	const circle = 6.283185307179586
	f := turnFraction(turns)
	isLower := f >= 0.5
	if isLower {
		f -= 0.5
	}
	if f > 0.25 {
		f = 0.5 - f
	}
	z := f * circle
	u := z * z
	p := 1.0
	for k := 8; k >= 1; k-- {
		p = 1 - float64(u*p)/float64(2*k*(2*k+1))
	}
	if isLower {
		return -float64(z * p)
	}
	return float64(z * p)
}

// SineTurns returns the sine of some turns.
func SineTurns(x float32) float32 {
	turns := float64(x)
	if !isFiniteWide(turns) {
		return NarrowNumber(math.NaN())
	}
	if math.Abs(turns) >= wholeTurns {
		return 0
	}
	return NarrowNumber(sineOf(turns))
}

// PhasorOf returns a point of the unit circle.
func PhasorOf(turns float64) complex64 {
	if !isFiniteWide(turns) {
		return NarrowComplex(complex(math.NaN(), math.NaN()))
	}
	if math.Abs(turns) >= wholeTurns {
		return 1
	}
	f := turnFraction(turns)
	quarters := 0
	for f >= 0.25 {
		f -= 0.25
		quarters++
	}
	return NarrowComplex(quarterPoint(quarters, sineOf(0.25-f), sineOf(f)))
}

// quarterPoint returns the point c + s i after some turns by a quarter. Parts
// are taken from 0, which leaves a zero without a sign.
func quarterPoint(quarters int, c, s float64) complex128 {
	switch quarters {
	case 1:
		return complex(0-s, c)
	case 2:
		return complex(0-c, 0-s)
	case 3:
		return complex(s, 0-c)
	}
	return complex(c, s)
}

// AngleOf returns the angle in turns.
func AngleOf(x complex64) float32 {
	return AngleTurns(imag(x), real(x))
}

// AngleTurns returns the angle of a point.
func AngleTurns(y, x float32) float32 {
	if !IsFinite(y) || !IsFinite(x) {
		return NarrowNumber(math.NaN())
	}
	if y == 0 && x == 0 {
		return 0
	}
	a, b := math.Abs(float64(y)), math.Abs(float64(x))
	var angle float64
	if a > b {
		angle = 0.25 - slopeAngle(b/a)
	} else {
		angle = slopeAngle(a / b)
	}
	if x < 0 {
		angle = 0.5 - angle
	}
	if y < 0 {
		angle = -angle
	}
	return NarrowNumber(angle)
}

// slopeAngle returns the angle, in turns, whose tangent is t, from 0 to 1. It
// halves the angle three times, so that few terms of the series suffice.
func slopeAngle(t float64) float64 {
	const circle = 6.283185307179586
	for range 3 {
		t = t / (1 + math.Sqrt(1+float64(t*t)))
	}
	return 8 * float64(t*oddSeries(15, -(t*t))) / circle
}

// oddSeries returns 1 + u/3 + u u/5 and so on up to the last odd number.
func oddSeries(last int, u float64) float64 {
	sum := 0.0
	for k := last; k >= 1; k -= 2 {
		sum = 1/float64(k) + float64(u*sum)
	}
	return sum
}

// TenthsOf returns tenths of decibels.
func TenthsOf(power float32) (int64, bool) {
	if !IsFinite(power) || power <= 0 {
		return 0, false
	}
	x, halvings := float64(power), 0
	for x >= 1.5 {
		x /= 2
		halvings++
	}
	for x < 0.75 {
		x *= 2
		halvings--
	}
	s := (x - 1) / (x + 1)
	half := float64(s * oddSeries(25, s*s))
	l := 2*half + float64(float64(halvings)*0.6931471805599453)
	return int64(math.Floor(float64(l*43.42944819032518) + 0.5)), true
}

// sumOf returns the sum from left to right, which begins with a zero without signs.
func sumOf[T float32 | complex64](list []T) (T, bool) {
	var sum T
	if len(list) > MaxNumbers {
		return sum, false
	}
	for _, x := range list {
		sum += x
	}
	return sum, true
}

// dotOf returns the sum of the products of two lists of the same length.
func dotOf[T float32 | complex64](a, b []T, product func(x, y T) T) (T, bool) {
	var sum T
	if len(a) != len(b) || len(a) > MaxNumbers {
		return sum, false
	}
	for i, x := range a {
		sum += product(x, b[i])
	}
	return sum, true
}

// SumNumbers returns the sum from left to right.
func SumNumbers(list []float32) (float32, bool) {
	return sumOf(list)
}

// DotNumbers returns the sum of products.
func DotNumbers(a, b []float32) (float32, bool) {
	return dotOf(a, b, mulNumbers)
}

// SumComplex returns the sum from left to right.
func SumComplex(list []complex64) (complex64, bool) {
	return sumOf(list)
}

// DotComplex returns the sum of products.
func DotComplex(a, b []complex64) (complex64, bool) {
	return dotOf(a, b, MulComplex)
}

// DotConjugate returns the sum of products with conjugates.
func DotConjugate(a, b []complex64) (complex64, bool) {
	return dotOf(a, b, mulConjugate)
}

// mulConjugate returns the product of the conjugate of x, and y.
func mulConjugate(x, y complex64) complex64 {
	return MulComplex(ConjugateOf(x), y)
}

// PowersOf returns the sum of powers.
func PowersOf(list []complex64) (float32, bool) {
	if len(list) > MaxNumbers {
		return 0, false
	}
	sum := 0.0
	for _, x := range list {
		sum += widePower(x)
	}
	return NarrowNumber(sum), true
}

// joinItems returns the texts of at most so many items, with commas between them.
func joinItems[T any](list []T, most int, text func(T) (string, bool)) (string, bool) {
	if len(list) > most {
		return "", false
	}
	if len(list) == 0 {
		return noItems, true
	}
	words := make([]string, 0, len(list))
	for _, item := range list {
		word, ok := text(item)
		if !ok {
			return "", false
		}
		words = append(words, word)
	}
	return strings.Join(words, ","), true
}

// splitItems returns at most so many items whose texts are joined in s.
func splitItems[T any](s string, most int, read func(string) (T, bool)) ([]T, bool) {
	if s == noItems {
		return nil, true
	}
	words := strings.SplitN(s, ",", most+1)
	if len(words) > most {
		return nil, false
	}
	list := make([]T, 0, len(words))
	for _, word := range words {
		item, ok := read(word)
		if !ok {
			return nil, false
		}
		list = append(list, item)
	}
	return list, true
}

// numberText returns the 8 digits of the bits of a number.
func numberText(x float32) (string, bool) {
	digits := strconv.FormatInt(BitsOf(x), 16)
	return strings.Repeat("0", numberDigits-len(digits)) + digits, true
}

// readNumber returns the number whose text is s.
func readNumber(s string) (float32, bool) {
	bits, err := strconv.ParseUint(s, 16, 32)
	if err != nil {
		return 0, false
	}
	x := math.Float32frombits(uint32(bits))
	if text, _ := numberText(x); text != s {
		return 0, false
	}
	return x, true
}

// NumbersText returns the text of numbers.
func NumbersText(list []float32) (string, bool) {
	return joinItems(list, MaxNumbers, numberText)
}

// ReadNumbers returns the numbers with the given text.
func ReadNumbers(s string) ([]float32, bool) {
	return splitItems(s, MaxNumbers, readNumber)
}

// pairText returns the digits of the real part, and those of the imaginary part.
func pairText(x complex64) (string, bool) {
	first, _ := numberText(real(x))
	second, _ := numberText(imag(x))
	return first + second, true
}

// readPair returns the complex number whose text is s.
func readPair(s string) (complex64, bool) {
	if len(s) != 2*numberDigits {
		return 0, false
	}
	first, isFirst := readNumber(s[:numberDigits])
	second, isSecond := readNumber(s[numberDigits:])
	if !isFirst || !isSecond {
		return 0, false
	}
	return complex(first, second), true
}

// ComplexText returns the text of complex numbers.
func ComplexText(list []complex64) (string, bool) {
	return joinItems(list, MaxNumbers, pairText)
}

// ReadComplex returns the complex numbers with the given text.
func ReadComplex(s string) ([]complex64, bool) {
	return splitItems(s, MaxNumbers, readPair)
}

// IsName reports whether s has 1 to 8 letters a to z.
func IsName(s string) bool {
	if len(s) < 1 || len(s) > nameBytes {
		return false
	}
	for i := range len(s) {
		if s[i] < 'a' || s[i] > 'z' {
			return false
		}
	}
	return true
}

// Decimal returns n in decimal.
func Decimal(n int64) string {
	return strconv.FormatInt(n, 10)
}

// isValue reports whether n is a number that texts may have.
func isValue(n int64) bool {
	return n >= -MaxValue && n <= MaxValue
}

// ReadDecimal returns the number with the given decimal text.
func ReadDecimal(s string) (int64, bool) {
	n, err := strconv.ParseInt(s, 10, 64)
	if err != nil || !isValue(n) || Decimal(n) != s {
		return 0, false
	}
	return n, true
}

// valueText returns n in decimal if texts may have it.
func valueText(n int64) (string, bool) {
	if !isValue(n) {
		return "", false
	}
	return Decimal(n), true
}

// ListText returns the text of a list.
func ListText(list []int64) (string, bool) {
	return joinItems(list, MaxItems, valueText)
}

// ReadList returns the list with the given text.
func ReadList(s string) ([]int64, bool) {
	return splitItems(s, MaxItems, ReadDecimal)
}

// CheckOf returns the check number of a text that begins with start.
func CheckOf(start int64, s string) (int64, bool) {
	if start < 0 || start >= CheckSize {
		return 0, false
	}
	check := start
	for i := range len(s) {
		check = (691*check + int64(s[i]) + 43) % CheckSize
	}
	return check, true
}
