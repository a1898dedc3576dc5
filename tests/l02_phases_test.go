package tests

import (
	"math"
	"strconv"
	"strings"
	"testing"

	"loop.example/g01212/impl"
)

// placed returns phases with x at a place, and with other numbers elsewhere.
func placed(x complex64, place int, others complex64) impl.Phases {
	list := [3]complex64{others, others, others}
	list[place] = x
	return impl.Phases{A: list[0], B: list[1], C: list[2]}
}

// phaseAt returns A, B or C.
func phaseAt(p impl.Phases, place int) complex64 {
	return [3]complex64{p.A, p.B, p.C}[place]
}

// phasesFrom returns the phases with the digits of six words.
func phasesFrom(t *testing.T, words []string) impl.Phases {
	t.Helper()
	return impl.Phases{A: complexOf(t, words), B: complexOf(t, words[2:]), C: complexOf(t, words[4:])}
}

// Promise 1: phases are the same if the bits of all parts are, and all not-a-numbers are one.
func TestSamePhases(t *testing.T) {
	for i, a := range oddPhases() {
		for j, b := range oddPhases() {
			if got := impl.SamePhases(a, b); got != (phasesText(a) == phasesText(b)) || i == j && !got {
				t.Errorf("SamePhases %s, %s: got %v", phasesText(a), phasesText(b), got)
			}
		}
	}
	for place := range 3 {
		for _, x := range oddNumbers() {
			for _, y := range oddNumbers() {
				want := digitsOf(x) == digitsOf(y)
				across := impl.SamePhases(placed(complex(x, 1), place, 5), placed(complex(y, 1), place, 5))
				upright := impl.SamePhases(placed(complex(1, x), place, 5), placed(complex(1, y), place, 5))
				if across != want || upright != want {
					t.Errorf("SamePhases with %v and %v at %d: got %v, %v, want %v", x, y, place, across, upright, want)
				}
			}
		}
	}
	odd := math.Float32frombits(0xffc12345)
	if !impl.SamePhases(impl.Phases{B: complex(notANumber, odd)}, impl.Phases{B: complex(odd, notANumber)}) {
		t.Errorf("SamePhases: not-a-numbers with other bits are not the same")
	}
}

// Promise 3: sums, differences and products are those of both A, both B and both C.
func TestSumsOfPhases(t *testing.T) {
	for _, p := range oddPhases() {
		for _, q := range oddPhases() {
			sum, less := impl.AddPhases(p, q), impl.LessPhases(p, q)
			for place := range 3 {
				x, y := phaseAt(p, place), phaseAt(q, place)
				expectComplex(t, "AddPhases", phaseAt(sum, place), complex(real(x)+real(y), imag(x)+imag(y)))
				expectComplex(t, "LessPhases", phaseAt(less, place), complex(real(x)-real(y), imag(x)-imag(y)))
			}
		}
		for _, by := range oddNumbers() {
			scaled := impl.ScalePhases(p, by)
			for place := range 3 {
				x := phaseAt(p, place)
				expectComplex(t, "ScalePhases", phaseAt(scaled, place), complex(real(x)*by, imag(x)*by))
			}
		}
	}
	p := impl.Phases{A: 1, B: complex(2, -1), C: complex(0, 3)}
	expectPhases(t, "AddPhases", impl.AddPhases(p, impl.Phases{A: 1, B: 10, C: 100}), impl.Phases{A: 2, B: complex(12, -1), C: complex(100, 3)})
	expectPhases(t, "LessPhases", impl.LessPhases(p, impl.Phases{A: 1, B: 10, C: 100}), impl.Phases{A: 0, B: complex(-8, -1), C: complex(-100, 3)})
	expectPhases(t, "ScalePhases", impl.ScalePhases(p, 2), impl.Phases{A: 2, B: complex(4, -2), C: complex(0, 6)})
}

// Promise 3: phases go around in three steps.
func TestNextPhases(t *testing.T) {
	expectPhases(t, "NextPhases", impl.NextPhases(impl.Phases{A: 1, B: 2, C: 3}), impl.Phases{A: 3, B: 1, C: 2})
	for _, p := range oddPhases() {
		next := impl.NextPhases(p)
		expectPhases(t, "NextPhases", next, impl.Phases{A: p.C, B: p.A, C: p.B})
		expectPhases(t, "NextPhases three times", impl.NextPhases(impl.NextPhases(next)), p)
	}
}

// Promise 3: even phases to the last bit.
func TestEvenRows(t *testing.T) {
	for _, row := range rowsOf(evenRows) {
		x := complexOf(t, row)
		want := impl.Phases{A: x, B: complexOf(t, row[2:]), C: complexOf(t, row[4:])}
		expectPhases(t, "EvenPhases "+row[0]+" "+row[1], impl.EvenPhases(x), want)
	}
}

// Promise 3: drops to the last bit, whatever else the bus has.
func TestDropRows(t *testing.T) {
	for _, row := range rowsOf(dropRows) {
		current, want := phasesFrom(t, row[4:]), phasesFrom(t, row[10:])
		b := impl.Bus{Own: complexOf(t, row), Shared: complexOf(t, row[2:])}
		what := "DropOf " + strings.Join(row[:10], " ")
		expectPhases(t, what, impl.DropOf(b, current), want)
		b.Parent, b.Kind, b.Load, b.Customers = -7, 9, impl.Phases{A: 1, B: complex(notANumber, 2), C: 3}, -3
		expectPhases(t, what, impl.DropOf(b, current), want)
	}
}

// Promise 3: the drop of a line with Own 1 and Shared 0 is the current.
func TestDropOfPlainLine(t *testing.T) {
	current := impl.Phases{A: complex(3, -4), B: complex(0.5, 7), C: complex(-9, 0.25)}
	expectPhases(t, "DropOf", impl.DropOf(impl.Bus{Own: 1}, current), current)
	expectPhases(t, "DropOf", impl.DropOf(impl.Bus{Shared: 1}, impl.Phases{A: 1, B: 10, C: 100}), impl.Phases{A: 110, B: 101, C: 11})
}

// Promise 3: currents of loads to the last bit, in each phase on its own, for all
// kinds and for numbers that are none, for loads and voltages of zero.
func TestLoadRows(t *testing.T) {
	for _, row := range rowsOf(loadRows) {
		kind, err := strconv.ParseInt(row[0], 10, 64)
		if err != nil {
			t.Fatalf("row: %v", err)
		}
		load, voltage, want := complexOf(t, row[1:]), complexOf(t, row[3:]), complexOf(t, row[5:])
		for place := range 3 {
			b := impl.Bus{Kind: kind, Load: placed(load, place, complex(negativeZero, 0))}
			got := impl.LoadCurrentOf(b, placed(voltage, place, complex(notANumber, 1)))
			expectPhases(t, "LoadCurrentOf "+strings.Join(row[:5], " "), got, placed(want, place, 0))
		}
	}
}

// Promise 3: the load of each phase takes the voltage of this phase.
func TestLoadsOfPhases(t *testing.T) {
	voltage := impl.Phases{A: 1, B: complex(0, 2), C: -4}
	b := impl.Bus{
		Parent: 99, Own: 7, Shared: complex(notANumber, 1), Customers: -1,
		Load: impl.Phases{A: complex(8, 4), B: 16, C: complex(0, -8)},
	}
	currents := []impl.Phases{
		{A: complex(8, -4), B: complex(0, 8), C: complex(0, -2)},
		b.Load,
		{A: complex(0.1, -0.05), B: complex(0, 0.125), C: complex(0, -0.5)},
	}
	for kind, want := range currents {
		b.Kind = int64(kind)
		got := impl.LoadCurrentOf(b, voltage)
		if got != want { // zeros of any sign
			t.Errorf("LoadCurrentOf Kind %d: got %v, want %v", kind, got, want)
		}
	}
}
