package tests

import (
	"math"
	"strconv"
	"testing"

	"loop.example/g01212/impl"
)

// Promise 2: sines, phasors and angles to the last bit.
func TestSineRows(t *testing.T) {
	for _, row := range rowsOf(sineRows) {
		expect(t, "SineTurns "+row[0], digitsOf(impl.SineTurns(numberOf(t, row[0]))), row[1])
	}
}

func TestPhasorRows(t *testing.T) {
	for _, row := range rowsOf(phasorRows) {
		got := impl.PhasorOf(wideNumberOf(t, row[0]))
		expect(t, "PhasorOf "+row[0], partsOf(got), row[1]+" "+row[2])
	}
}

func TestAngleRows(t *testing.T) {
	for _, row := range rowsOf(angleRows) {
		y, x := numberOf(t, row[0]), numberOf(t, row[1])
		expect(t, "AngleTurns "+row[0]+" "+row[1], digitsOf(impl.AngleTurns(y, x)), row[2])
		expect(t, "AngleOf "+row[1]+" "+row[0], digitsOf(impl.AngleOf(complex(x, y))), row[2])
	}
}

// Promise 2: quarters of turns are told exactly, however often one goes around.
func TestQuarters(t *testing.T) {
	points := []complex64{1, complex(0, 1), -1, complex(0, -1)}
	for turn := -400; turn <= 400; turn++ {
		turns := float64(turn) / 4
		point := points[(turn+400)%4]
		if got := impl.PhasorOf(turns); got != point {
			t.Errorf("PhasorOf %v: got %v, want %v", turns, got, point)
		}
		if got := impl.SineTurns(float32(turns)); got != imag(point) {
			t.Errorf("SineTurns %v: got %v, want %v", turns, got, imag(point))
		}
	}
}

// Promise 2: a phasor is near to the cosine and the sine, and its angle leads back.
func TestPhasorsAreNear(t *testing.T) {
	for i := -3000; i <= 3000; i++ {
		turns := float64(i) / 1777
		s, c := math.Sincos(2 * math.Pi * turns)
		point := impl.PhasorOf(turns)
		if math.Abs(float64(real(point))-c) > 1e-7 || math.Abs(float64(imag(point))-s) > 1e-7 {
			t.Errorf("PhasorOf %v: got %v", turns, point)
		}
		if got := impl.SineTurns(float32(turns)); math.Abs(float64(got)-s) > 1e-6 {
			t.Errorf("SineTurns %v: got %v", turns, got)
		}
		beyond := math.Abs(math.Remainder(turns-float64(impl.AngleOf(point)), 1))
		if beyond > 1e-7 {
			t.Errorf("AngleOf PhasorOf %v: got %v", turns, impl.AngleOf(point))
		}
	}
}

// Promise 2: tenths of decibels at the bounds between them.
func TestTenthsRows(t *testing.T) {
	for _, row := range rowsOf(tenthsRows) {
		n, ok := impl.TenthsOf(numberOf(t, row[0]))
		if row[1] == "none" {
			expectFailure(t, "TenthsOf "+row[0], n == 0, ok)
			continue
		}
		if !ok {
			t.Errorf("TenthsOf %s: fails", row[0])
		}
		expect(t, "TenthsOf "+row[0], strconv.FormatInt(n, 10), row[1])
	}
}

// Promise 2: tenths never become less when powers become greater, and are near to the logarithm.
func TestTenthsRise(t *testing.T) {
	before := int64(math.MinInt64)
	for bits := uint32(1); bits < 0x7f800000; bits += 99991 {
		power := math.Float32frombits(bits)
		n, ok := impl.TenthsOf(power)
		if !ok || n < before || math.Abs(float64(n)-100*math.Log10(float64(power))) > 0.500001 {
			t.Fatalf("TenthsOf %v: got %v, %v, behind %v", power, n, ok, before)
		}
		before = n
	}
}
