package tests

import (
	"strings"
	"testing"

	"loop.example/g01212/impl"
)

// Promise 2: products and quotients to the last bit, also with infinities,
// not-a-numbers, zeros with signs, subnormal numbers and quotients by zero.
func TestProductRows(t *testing.T) {
	for _, row := range rowsOf(productRows) {
		got := impl.MulComplex(complexOf(t, row), complexOf(t, row[2:]))
		expect(t, "MulComplex "+strings.Join(row[:4], " "), partsOf(got), row[4]+" "+row[5])
	}
}

func TestQuotientRows(t *testing.T) {
	for _, row := range rowsOf(quotientRows) {
		got := impl.QuotientOf(complexOf(t, row), complexOf(t, row[2:]))
		expect(t, "QuotientOf "+strings.Join(row[:4], " "), partsOf(got), row[4]+" "+row[5])
	}
}

func TestScaleRows(t *testing.T) {
	for _, row := range rowsOf(scaleRows) {
		got := impl.ScaleComplex(complexOf(t, row), numberOf(t, row[2]))
		expect(t, "ScaleComplex "+strings.Join(row[:3], " "), partsOf(got), row[3]+" "+row[4])
	}
}

func TestPowerRows(t *testing.T) {
	for _, row := range rowsOf(powerRows) {
		x := complexOf(t, row)
		expect(t, "PowerOf "+row[0]+" "+row[1], digitsOf(impl.PowerOf(x)), row[2])
		expect(t, "LongOf "+row[0]+" "+row[1], digitsOf(impl.LongOf(x)), row[3])
	}
}

// Promise 2: the root of -0 is -0, and those of other negative numbers are not-a-numbers.
func TestRootRows(t *testing.T) {
	for _, row := range rowsOf(rootRows) {
		expect(t, "RootNumber "+row[0], digitsOf(impl.RootNumber(numberOf(t, row[0]))), row[1])
	}
}

// Promise 2: only the sign of the imaginary part is turned, also that of a zero.
func TestConjugate(t *testing.T) {
	for _, a := range oddNumbers() {
		for _, b := range oddNumbers() {
			got := impl.ConjugateOf(complex(a, b))
			expectNumber(t, "real part of ConjugateOf", real(got), a)
			expectNumber(t, "imaginary part of ConjugateOf", imag(got), b*-1)
			expectComplex(t, "ConjugateOf twice", impl.ConjugateOf(got), complex(a, b))
		}
	}
}

// Promise 2: products of small integers are exact, and quotients lead back.
func TestSmallIntegers(t *testing.T) {
	for a := -6; a <= 6; a++ {
		for b := -6; b <= 6; b++ {
			for c := -6; c <= 6; c++ {
				for d := -6; d <= 6; d++ {
					checkSmallIntegers(t, a, b, c, d)
				}
			}
		}
	}
}

func checkSmallIntegers(t *testing.T, a, b, c, d int) {
	t.Helper()
	x, y := complex(float32(a), float32(b)), complex(float32(c), float32(d))
	product := complex(float32(a*c-b*d), float32(a*d+b*c))
	if got := impl.MulComplex(x, y); got != product {
		t.Errorf("MulComplex %v, %v: got %v", x, y, got)
	}
	if got := impl.ScaleComplex(x, float32(c)); got != complex(float32(a*c), float32(b*c)) {
		t.Errorf("ScaleComplex %v, %v: got %v", x, c, got)
	}
	if got := impl.PowerOf(x); got != float32(a*a+b*b) {
		t.Errorf("PowerOf %v: got %v", x, got)
	}
	if got := impl.QuotientOf(product, y); y != 0 && got != x {
		t.Errorf("QuotientOf %v, %v: got %v, want %v", product, y, got, x)
	}
	numbers, isSum := impl.DotNumbers([]float32{real(x), imag(x)}, []float32{real(y), -imag(y)})
	if !isSum || numbers != real(product) {
		t.Errorf("DotNumbers of %v, %v: got %v, %v", x, y, numbers, isSum)
	}
	sum, isSum := impl.DotComplex([]complex64{x, y}, []complex64{y, x})
	if !isSum || sum != product+product {
		t.Errorf("DotComplex of %v, %v: got %v, %v", x, y, sum, isSum)
	}
}
