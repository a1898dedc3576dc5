package tests

import (
	"fmt"
	"slices"
	"testing"

	"loop.example/g01212/impl"
)

// canSwap reports whether a bus and the one behind it can change their places.
func canSwap(parents []int64, bus int64) bool {
	return bus > 0 && bus+1 < int64(len(parents)) && parents[bus+1] != bus
}

// swappedBuses exchanges two buses; each Parent is looked for by the customers of
// the bus, of which each bus of treeOf has another number.
func swappedBuses(f impl.Feeder, bus int64) []impl.Bus {
	order := make([]int64, len(f.Buses))
	for i := range order {
		order[i] = int64(i)
	}
	order[bus], order[bus+1] = order[bus+1], order[bus]
	return keptBuses(f, order)
}

// Promise 3: buses are exchanged with their lines, and the tree is what it was.
func TestSwapBuses(t *testing.T) {
	for _, parents := range someParents() {
		f := treeOf(parents)
		f.Buses[0].Own, f.Buses[0].Shared = complex(negativeZero, 0), complex(0, negativeZero)
		for i := range parents {
			bus := int64(i)
			swapped, ok := impl.SwapBuses(f, bus)
			if !canSwap(parents, bus) {
				expectNoFeeder(t, fmt.Sprint("SwapBuses of ", parents, bus), swapped, ok)
				continue
			}
			want := impl.Feeder{Source: f.Source, Buses: swappedBuses(f, bus)}
			expectFeeder(t, fmt.Sprint("SwapBuses of ", parents, bus), swapped, ok, want)
			if !impl.ValidFeeder(swapped) {
				t.Errorf("SwapBuses of %v, %d: not valid", parents, bus)
			}
			again, ok := impl.SwapBuses(swapped, bus)
			expectFeeder(t, "SwapBuses twice", again, ok, f)
		}
	}
}

// Promise 3: children of both buses follow them.
func TestSwapBusesWithChildren(t *testing.T) {
	f := treeOf([]int64{-1, 0, 0, 1, 2, 1, 2, 3, 0})
	swapped, ok := impl.SwapBuses(f, 1)
	var parents []int64
	for _, b := range swapped.Buses {
		parents = append(parents, b.Parent)
	}
	expectList(t, "SwapBuses", parents, ok, []int64{-1, 0, 0, 2, 1, 2, 1, 3, 0})
	if swapped.Buses[1].Customers != 4 || swapped.Buses[2].Customers != 2 || swapped.Buses[3].Customers != 8 {
		t.Errorf("SwapBuses: got %v", swapped.Buses)
	}
}

// Promise 4: exchanged buses have the voltages that they had, where the sums are exact.
func TestSweepsOfSwappedBuses(t *testing.T) {
	for _, parents := range someParents() {
		f := treeOf(parents)
		for i := range f.Buses {
			f.Buses[i].Kind = impl.LoadCurrent
		}
		want := solved(t, f, 5, 0)
		for bus := range int64(len(parents)) {
			if !canSwap(parents, bus) {
				continue
			}
			swapped, _ := impl.SwapBuses(f, bus)
			got := solved(t, swapped, 5, 0)
			for _, list := range [][]impl.Phases{got.Voltages, got.Currents} {
				list[bus], list[bus+1] = list[bus+1], list[bus]
			}
			if !slices.Equal(got.Voltages, want.Voltages) || !slices.Equal(got.Currents, want.Currents) {
				t.Errorf("SolveFeeder of swapped buses of %v, %d: got %v, want %v", parents, bus, got, want)
			}
		}
	}
}

// Promise 1: buses that are not there, and feeders that are not valid, make SwapBuses fail.
func TestSwapBusesFails(t *testing.T) {
	for _, parents := range [][]int64{{-1}, {-1, 0}, {-1, 0, 0, 1, 0}, starParents(16)} {
		f := treeOf(parents)
		for _, bus := range append(absentBuses(f), 0, int64(len(parents)-1)) {
			swapped, ok := impl.SwapBuses(f, bus)
			expectNoFeeder(t, fmt.Sprint("SwapBuses of ", len(parents), " buses at ", bus), swapped, ok)
		}
	}
	for what, f := range wrongFeeders() {
		for bus := int64(-1); bus < 5; bus++ {
			swapped, ok := impl.SwapBuses(f, bus)
			expectNoFeeder(t, "SwapBuses with "+what, swapped, ok)
		}
	}
}
