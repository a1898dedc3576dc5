package tests

import (
	"math"
	"testing"

	"loop.example/g01212/impl"
)

// Promise 2: numbers are the same if their digits are, with one form for all not-a-numbers.
func TestSameNumber(t *testing.T) {
	numbers := append(oddNumbers(), math.Float32frombits(0xffc00001), math.Float32frombits(0x7f800001))
	for _, a := range numbers {
		for _, b := range numbers {
			want := digitsOf(a) == digitsOf(b)
			if impl.SameNumber(a, b) != want {
				t.Errorf("SameNumber %v, %v: want %v", a, b, want)
			}
			checkSameComplex(t, a, b, want)
		}
	}
}

// checkSameComplex takes a and b as the real or the imaginary parts of two numbers.
func checkSameComplex(t *testing.T, a, b float32, want bool) {
	t.Helper()
	if impl.SameComplex(complex(a, 5), complex(b, 5)) != want {
		t.Errorf("SameComplex, real parts %v, %v: want %v", a, b, want)
	}
	if impl.SameComplex(complex(5, a), complex(5, b)) != want {
		t.Errorf("SameComplex, imaginary parts %v, %v: want %v", a, b, want)
	}
	if impl.SameComplex(complex(a, 5), complex(b, 6)) || impl.SameComplex(complex(5, a), complex(6, b)) {
		t.Errorf("SameComplex %v, %v: one part is another one", a, b)
	}
}

// Promise 2: only infinities and not-a-numbers are not finite.
func TestIsFinite(t *testing.T) {
	for _, x := range oddNumbers() {
		want := x == x && x != positiveInfinity && x != negativeInfinity
		if impl.IsFinite(x) != want {
			t.Errorf("IsFinite %v: want %v", x, want)
		}
		for _, y := range oddNumbers() {
			want := impl.IsFinite(x) && impl.IsFinite(y)
			if impl.IsFiniteComplex(complex(x, y)) != want {
				t.Errorf("IsFiniteComplex %v, %v: want %v", x, y, want)
			}
		}
	}
}

// Promise 2: bits lead to a number and back, and not-a-numbers have one form.
func TestBits(t *testing.T) {
	for _, bits := range []int64{0, 1, 0x007fffff, 0x00800000, 0x3f800000, 0x7f7fffff, 0x7f800000, 0x80000000, 0x80000001, 0xbf800000, 0xff800000} {
		x, ok := impl.FromBits(bits)
		if !ok || math.Float32bits(x) != uint32(bits) {
			t.Errorf("FromBits %x: %v, %v", bits, x, ok)
		}
		if got := impl.BitsOf(x); got != bits {
			t.Errorf("BitsOf %v: got %x, want %x", x, got, bits)
		}
	}
	for _, bits := range []int64{0x7f800001, 0x7fc00000, 0x7fc00001, 0x7fffffff, 0xff800001, 0xffc00000, 4294967295} {
		x, ok := impl.FromBits(bits)
		if !ok || x == x || impl.BitsOf(x) != 2143289344 {
			t.Errorf("FromBits %x: not a not-a-number with the bits 2143289344: %v, %v", bits, x, ok)
		}
	}
}

func TestFromBitsFails(t *testing.T) {
	for _, bits := range []int64{-1, 4294967296, 4294967296 + 0x3f800000, -4294967296, math.MinInt64, math.MaxInt64} {
		x, ok := impl.FromBits(bits)
		expectFailure(t, "FromBits", digitsOf(x) == "00000000", ok)
	}
}

// Promise 2: narrowing takes the nearest number, and the even one of two.
func TestNarrowing(t *testing.T) {
	for _, row := range rowsOf(narrowRows) {
		x := wideNumberOf(t, row[0])
		expect(t, "NarrowNumber "+row[0], digitsOf(impl.NarrowNumber(x)), row[1])
		expect(t, "NarrowComplex real "+row[0], partsOf(impl.NarrowComplex(complex(x, 2))), row[1]+" 40000000")
		expect(t, "NarrowComplex imaginary "+row[0], partsOf(impl.NarrowComplex(complex(-2, x))), "c0000000 "+row[1])
	}
}

// Promise 2: subnormal numbers lie between zero and 2 to the power of -126.
func TestSubnormal(t *testing.T) {
	for _, x := range []float32{leastSubnormal, mostSubnormal, math.Float32frombits(0x00400000), -leastSubnormal, -mostSubnormal} {
		if !impl.IsSubnormal(x) {
			t.Errorf("IsSubnormal %v: want true", x)
		}
		expectNumber(t, "FlushNumber", impl.FlushNumber(x), float32(math.Copysign(0, float64(x))))
	}
	for _, x := range append(oddNumbers(), -leastNormal) {
		if x != 0 && x > -leastNormal && x < leastNormal {
			continue
		}
		if impl.IsSubnormal(x) {
			t.Errorf("IsSubnormal %v: want false", x)
		}
		expectNumber(t, "FlushNumber", impl.FlushNumber(x), x)
	}
}
