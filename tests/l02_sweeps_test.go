package tests

import (
	"slices"
	"testing"

	"loop.example/g01212/impl"
)

// sweep makes one round, backward with currents and forward with voltages.
func sweep(f impl.Feeder, voltages []impl.Phases) (currents, next []impl.Phases) {
	for i, b := range f.Buses {
		currents = append(currents, impl.LoadCurrentOf(b, voltages[i]))
	}
	for i, b := range slices.Backward(f.Buses) {
		if b.Parent >= 0 {
			currents[b.Parent] = impl.AddPhases(currents[b.Parent], currents[i])
		}
	}
	for i, b := range f.Buses {
		if b.Parent < 0 {
			next = append(next, f.Source)
		} else {
			next = append(next, impl.LessPhases(next[b.Parent], impl.DropOf(b, currents[i])))
		}
	}
	return currents, next
}

// expectAround reports phases that are not those before them gone around.
func expectAround(t *testing.T, what string, got, before []impl.Phases) {
	t.Helper()
	for i, p := range before {
		expectPhases(t, what, got[i], impl.NextPhases(p))
	}
}

// checkSweepsAround sweeps a feeder, and the one whose phases go around, side by side.
func checkSweepsAround(t *testing.T, f impl.Feeder, rounds int) {
	t.Helper()
	around, ok := impl.NextFeeder(f)
	if !ok {
		t.Fatalf("NextFeeder: fails")
	}
	voltages, turned := repeated(f.Source, len(f.Buses)), repeated(around.Source, len(f.Buses))
	for range rounds {
		var currents, turnedCurrents []impl.Phases
		currents, voltages = sweep(f, voltages)
		turnedCurrents, turned = sweep(around, turned)
		expectAround(t, "currents of a sweep", turnedCurrents, currents)
		expectAround(t, "voltages of a sweep", turned, voltages)
	}
}

// Promise 3: a feeder whose phases go around has sweeps whose phases go around, to the last bit.
func TestSweepsGoAround(t *testing.T) {
	for _, parents := range someParents() {
		f := treeOf(parents)
		for i := range f.Buses {
			f.Buses[i].Own = impl.ScaleComplex(f.Buses[i].Own, 0.01)
			f.Buses[i].Shared = impl.ScaleComplex(f.Buses[i].Shared, 0.003)
		}
		checkSweepsAround(t, f, 5)
	}
}

// Promise 3: this holds for infinities, not-a-numbers, loads and voltages of zero.
func TestOddSweepsGoAround(t *testing.T) {
	for _, p := range oddPhases() {
		for _, q := range oddPhases() {
			f := treeOf([]int64{-1, 0, 1, 1})
			f.Buses[1].Load, f.Buses[3].Load, f.Buses[3].Kind = p, q, impl.LoadImpedance
			f.Buses[2].Own, f.Buses[2].Shared = p.B, q.C
			checkSweepsAround(t, f, 3)
			f.Source = q
			checkSweepsAround(t, f, 3)
		}
	}
}

// Promise 3: the drops and the currents of loads go around with their phases.
func TestPartsOfSweepsGoAround(t *testing.T) {
	for _, p := range oddPhases() {
		for _, q := range oddPhases() {
			for kind := int64(-1); kind <= 3; kind++ {
				b := impl.Bus{Own: q.A, Shared: q.B, Kind: kind, Load: q}
				drop, current := impl.DropOf(b, p), impl.LoadCurrentOf(b, p)
				b.Load = impl.NextPhases(q)
				expectPhases(t, "DropOf", impl.DropOf(b, impl.NextPhases(p)), impl.NextPhases(drop))
				expectPhases(t, "LoadCurrentOf", impl.LoadCurrentOf(b, impl.NextPhases(p)), impl.NextPhases(current))
			}
		}
	}
}

// Promise 3: scaled loads of all kinds draw as many times the current.
func TestScaledLoadsDrawMore(t *testing.T) {
	f := treeOf(rowParents(6))
	voltage := impl.Phases{A: 64, B: complex(0, 32), C: complex(-16, 0)}
	for _, by := range []float32{2, 0.5, -4, 1} {
		scaled, ok := impl.ScaleLoads(f, by)
		if !ok {
			t.Fatalf("ScaleLoads: fails")
		}
		for i, b := range f.Buses {
			want := impl.ScalePhases(impl.LoadCurrentOf(b, voltage), by)
			if got := impl.LoadCurrentOf(scaled.Buses[i], voltage); got != want { // zeros of any sign
				t.Errorf("LoadCurrentOf the bus %d scaled by %v: got %v, want %v", i, by, got, want)
			}
		}
	}
}
