package tests

import (
	"slices"
	"testing"

	"loop.example/g01212/impl"
)

// checkAround solves a feeder, and the one whose phases go around, side by side.
func checkAround(t *testing.T, f impl.Feeder) {
	t.Helper()
	around, ok := impl.NextFeeder(f)
	if !ok {
		t.Fatalf("NextFeeder: fails")
	}
	for _, rounds := range []int64{1, 2, 3, 50} {
		flow, turned := solved(t, f, rounds, 0.001), solved(t, around, rounds, 0.001)
		expectFlow(t, "SolveFeeder around", turned, true, impl.NextFlow(flow))
		rest, _ := impl.RestOf(f, flow)
		turnedRest, ok := impl.RestOf(around, turned)
		expectNumber(t, "RestOf around", turnedRest, rest)
		bus, low, isLow := impl.LowestBus(f, flow)
		turnedBus, turnedLow, isTurnedLow := impl.LowestBus(around, turned)
		if !ok || bus != turnedBus || isLow != isTurnedLow {
			t.Errorf("LowestBus around: got %d, %v, want %d, %v", turnedBus, isTurnedLow, bus, isLow)
		}
		expectNumber(t, "LowestBus around", turnedLow, low)
	}
}

// Promise 3: a feeder whose phases go around has flows whose phases go around, to the last bit.
func TestFlowsGoAround(t *testing.T) {
	for _, parents := range someParents() {
		checkAround(t, gentle(parents))
		checkAround(t, treeOf(parents))
	}
	for _, f := range oddFeeders() {
		checkAround(t, f)
	}
	for _, share := range []float32{0.5, 0.9, 1, 4} {
		checkAround(t, halving(share))
	}
}

// at returns the phases of a list at some indices.
func at(list []impl.Phases, indices []int64) []impl.Phases {
	var some []impl.Phases
	for _, i := range indices {
		some = append(some, list[i])
	}
	return some
}

// Promise 3: a part that is cut off has the currents that it had, at the voltages that it had.
func TestSweepsOfParts(t *testing.T) {
	for _, parents := range someParents() {
		f := gentle(parents)
		voltages := solved(t, f, 3, 0).Voltages
		whole := run(t, f, voltages, 1)
		for bus := int64(1); bus < int64(len(parents)); bus++ {
			below := belowOf(parents, bus)
			part, ok := impl.PartFeeder(f, bus, whole.Voltages[bus])
			want := impl.Flow{Voltages: at(whole.Voltages, below), Currents: at(whole.Currents, below), Rounds: 1}
			once, isSwept := impl.SweepOnce(part, at(voltages, below))
			expectFlow(t, "SweepOnce of a part", once, ok && isSwept, want)
		}
	}
}

// Promise 3: a part that is cut off and grafted again leads to the same flow, in
// which the part is behind the others, if the sums are exact.
func TestFlowsOfGraftedParts(t *testing.T) {
	for _, parents := range someParents() {
		f := treeOf(parents)
		for i := range f.Buses {
			f.Buses[i].Kind = impl.LoadCurrent
		}
		flow := solved(t, f, 5, 0)
		for bus := int64(1); bus < int64(len(parents)); bus++ {
			others, below := othersOf(parents, bus), belowOf(parents, bus)
			cut, _ := impl.CutFeeder(f, bus)
			part, _ := impl.PartFeeder(f, bus, f.Source)
			graft, _ := impl.GraftFeeder(cut, int64(slices.Index(others, parents[bus])), part, f.Buses[bus].Own, f.Buses[bus].Shared)
			got, order := solved(t, graft, 5, 0), slices.Concat(others, below)
			if !slices.Equal(got.Voltages, at(flow.Voltages, order)) || !slices.Equal(got.Currents, at(flow.Currents, order)) {
				t.Errorf("SolveFeeder of a part of %v at %d that is grafted again: got %v, want %v", parents, bus, got, flow)
			}
		}
	}
}
