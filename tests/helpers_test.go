package tests

import (
	"math"
	"strconv"
	"strings"
	"testing"
)

var (
	positiveInfinity = float32(math.Inf(1))
	negativeInfinity = float32(math.Inf(-1))
	notANumber       = float32(math.NaN())
	negativeZero     = float32(math.Copysign(0, -1))
	leastSubnormal   = math.Float32frombits(1)
	mostSubnormal    = math.Float32frombits(0x007fffff)
	leastNormal      = math.Float32frombits(0x00800000)
	greatestNumber   = float32(math.MaxFloat32)
)

// oddNumbers are the numbers at the edges of the 32-bit format, and some others.
func oddNumbers() []float32 {
	return []float32{
		0, negativeZero, leastSubnormal, -leastSubnormal, mostSubnormal, leastNormal,
		0.25, 1, -1, 1.5, -3.7, greatestNumber, -greatestNumber,
		positiveInfinity, negativeInfinity, notANumber,
	}
}

// digitsOf returns the digits of the bits of x, with one form for all not-a-numbers.
func digitsOf(x float32) string {
	bits := math.Float32bits(x)
	if x != x {
		bits = 0x7fc00000
	}
	digits := strconv.FormatUint(uint64(bits), 16)
	return strings.Repeat("0", 8-len(digits)) + digits
}

// partsOf returns the digits of both parts of x.
func partsOf(x complex64) string {
	return digitsOf(real(x)) + " " + digitsOf(imag(x))
}

// rowsOf splits a table into rows of words.
func rowsOf(table string) [][]string {
	var rows [][]string
	for line := range strings.Lines(table) {
		if words := strings.Fields(line); len(words) > 0 {
			rows = append(rows, words)
		}
	}
	return rows
}

// numberOf returns the 32-bit number with the given digits.
func numberOf(t *testing.T, digits string) float32 {
	t.Helper()
	bits, err := strconv.ParseUint(digits, 16, 32)
	if err != nil {
		t.Fatalf("row: %v", err)
	}
	return math.Float32frombits(uint32(bits))
}

// wideNumberOf returns the 64-bit number with the given digits.
func wideNumberOf(t *testing.T, digits string) float64 {
	t.Helper()
	bits, err := strconv.ParseUint(digits, 16, 64)
	if err != nil {
		t.Fatalf("row: %v", err)
	}
	return math.Float64frombits(bits)
}

// complexOf returns the complex number whose parts have the first two words as digits.
func complexOf(t *testing.T, words []string) complex64 {
	t.Helper()
	return complex(numberOf(t, words[0]), numberOf(t, words[1]))
}

// expect reports a text that is not what it must be.
func expect(t *testing.T, what, got, want string) {
	t.Helper()
	if got != want {
		t.Errorf("%s: got %s, want %s", what, got, want)
	}
}

// expectNumber reports a number that is not the same as it must be.
func expectNumber(t *testing.T, what string, got, want float32) {
	t.Helper()
	expect(t, what, digitsOf(got), digitsOf(want))
}

// expectComplex reports a complex number that is not the same as it must be.
func expectComplex(t *testing.T, what string, got, want complex64) {
	t.Helper()
	expect(t, what, partsOf(got), partsOf(want))
}

// expectFailure reports a result of a failing function that is not a zero value.
func expectFailure(t *testing.T, what string, isZero, ok bool) {
	t.Helper()
	if ok || !isZero {
		t.Errorf("%s: must fail with zero values, ok is %v, zero is %v", what, ok, isZero)
	}
}
