package tests

import (
	"math"
	"testing"

	"loop.example/g01212/impl"
)

// The limits and the kinds are those of the document.
func TestFeederLimits(t *testing.T) {
	numbers := [5]int64{impl.MaxBuses, impl.MaxCustomers, impl.LoadPower, impl.LoadCurrent, impl.LoadImpedance}
	if numbers != [5]int64{16, 1000000, 0, 1, 2} {
		t.Errorf("limits and kinds: got %v", numbers)
	}
}

// Promise 1: feeders are valid up to their limits, with any numbers of the buses
// behind the root, and with zeros of any sign as the line of the root.
func TestValidFeeder(t *testing.T) {
	for _, parents := range someParents() {
		if !impl.ValidFeeder(treeOf(parents)) {
			t.Errorf("ValidFeeder %v: want true", parents)
		}
	}
	rowOf := []int64{-1, 0, 1, 1}
	for _, zero := range []complex64{0, complex(negativeZero, 0), complex(0, negativeZero), complex(negativeZero, negativeZero)} {
		if !impl.ValidFeeder(changedBus(rowOf, 0, func(b *impl.Bus) { b.Own, b.Shared = zero, -zero })) {
			t.Errorf("ValidFeeder with %s as line of the root: want true", partsOf(zero))
		}
	}
	for bus := range 4 {
		for _, customers := range []int64{0, 1, 999999, 1000000} {
			if !impl.ValidFeeder(changedBus(rowOf, bus, func(b *impl.Bus) { b.Customers = customers })) {
				t.Errorf("ValidFeeder with %d customers of %d: want true", customers, bus)
			}
		}
		for kind := range int64(3) {
			if !impl.ValidFeeder(changedBus(rowOf, bus, func(b *impl.Bus) { b.Kind = kind })) {
				t.Errorf("ValidFeeder with the Kind %d of %d: want true", kind, bus)
			}
		}
	}
	for _, p := range oddPhases() {
		f := changedBus(rowOf, 2, func(b *impl.Bus) { b.Own, b.Shared, b.Load = p.A, p.B, p })
		f.Source, f.Buses[0].Load = p, p
		if !impl.ValidFeeder(f) {
			t.Errorf("ValidFeeder with %s: want true", phasesText(p))
		}
	}
	if !impl.ValidFeeder(impl.Feeder{Buses: []impl.Bus{{Parent: -1}}}) {
		t.Errorf("ValidFeeder of a root alone: want true")
	}
}

func TestFeedersAreNotValid(t *testing.T) {
	for what, f := range wrongFeeders() {
		if impl.ValidFeeder(f) {
			t.Errorf("ValidFeeder with %s: want false", what)
		}
	}
}

// busChanges change one field of a bus each.
func busChanges() []func(b *impl.Bus) {
	changes := []func(b *impl.Bus){
		func(b *impl.Bus) { b.Parent ^= 1 },
		func(b *impl.Bus) { b.Parent += 1 << 40 },
		func(b *impl.Bus) { b.Kind++ },
		func(b *impl.Bus) { b.Kind += 1 << 32 },
		func(b *impl.Bus) { b.Customers++ },
		func(b *impl.Bus) { b.Customers += 1 << 50 },
	}
	numbers := []func(b *impl.Bus) *complex64{
		func(b *impl.Bus) *complex64 { return &b.Own },
		func(b *impl.Bus) *complex64 { return &b.Shared },
		func(b *impl.Bus) *complex64 { return &b.Load.A },
		func(b *impl.Bus) *complex64 { return &b.Load.B },
		func(b *impl.Bus) *complex64 { return &b.Load.C },
	}
	for _, number := range numbers {
		changes = append(changes,
			func(b *impl.Bus) { *number(b) = complex(real(*number(b))+100, imag(*number(b))) },
			func(b *impl.Bus) { *number(b) = complex(real(*number(b)), imag(*number(b))+100) },
			func(b *impl.Bus) { *number(b) = complex(notANumber, imag(*number(b))) })
	}
	return changes
}

// Promise 1: one field of one bus makes feeders differ, whether they are valid or not.
func TestSameFeeder(t *testing.T) {
	parents := []int64{-1, 0, 1, 1}
	f := treeOf(parents)
	if !impl.SameFeeder(f, treeOf(parents)) {
		t.Errorf("SameFeeder of equal feeders: want true")
	}
	for bus := range parents {
		for i, change := range busChanges() {
			changed := changedBus(parents, bus, change)
			if impl.SameFeeder(f, changed) || impl.SameFeeder(changed, f) {
				t.Errorf("SameFeeder with the change %d of %d: want false", i, bus)
			}
			if !impl.SameFeeder(changed, changedBus(parents, bus, change)) {
				t.Errorf("SameFeeder with the change %d of %d in both: want true", i, bus)
			}
		}
	}
	for _, shorter := range [][]int64{{-1}, {-1, 0, 1}, {-1, 0, 1, 1, 0}} {
		if impl.SameFeeder(f, treeOf(shorter)) || impl.SameFeeder(treeOf(shorter), f) {
			t.Errorf("SameFeeder with the parents %v: want false", shorter)
		}
	}
	for what, wrong := range wrongFeeders() {
		if !impl.SameFeeder(wrong, wrong) || impl.SameFeeder(wrong, f) {
			t.Errorf("SameFeeder with %s: want true with itself alone", what)
		}
	}
}

// Promise 1: numbers of feeders are the same by their bits, and nil is an empty list.
func TestSameNumbersOfFeeders(t *testing.T) {
	if !impl.SameFeeder(impl.Feeder{}, impl.Feeder{Buses: []impl.Bus{}}) {
		t.Errorf("SameFeeder of feeders without buses: want true")
	}
	odd := math.Float32frombits(0x7f812345)
	for i, p := range oddPhases() {
		for j, q := range oddPhases() {
			a := impl.Feeder{Source: p, Buses: []impl.Bus{{Own: p.A, Shared: p.B, Load: p}}}
			b := impl.Feeder{Source: q, Buses: []impl.Bus{{Own: q.A, Shared: q.B, Load: q}}}
			if got := impl.SameFeeder(a, b); got != (feederText(a) == feederText(b)) || i == j && !got {
				t.Errorf("SameFeeder with %s, %s: got %v", phasesText(p), phasesText(q), got)
			}
			b = impl.Feeder{Source: q, Buses: a.Buses}
			if got := impl.SameFeeder(a, b); got != (phasesText(p) == phasesText(q)) {
				t.Errorf("SameFeeder with the sources %s, %s: got %v", phasesText(p), phasesText(q), got)
			}
		}
	}
	a := impl.Feeder{Buses: []impl.Bus{{Own: complex(notANumber, negativeZero), Load: impl.Phases{C: complex(odd, 1)}}}}
	b := impl.Feeder{Buses: []impl.Bus{{Own: complex(odd, negativeZero), Load: impl.Phases{C: complex(notANumber, 1)}}}}
	if !impl.SameFeeder(a, b) {
		t.Errorf("SameFeeder: not-a-numbers with other bits are not the same")
	}
	b.Buses[0].Own = complex(odd, 0)
	if impl.SameFeeder(a, b) {
		t.Errorf("SameFeeder: zeros with other signs are the same")
	}
}
