package tests

import (
	"fmt"
	"slices"
	"testing"

	"loop.example/g01212/impl"
)

// atNoSteps returns taps at no steps, and with any Each that they can have.
func atNoSteps(taps []impl.Tap) []impl.Tap {
	each := []float32{0, negativeZero, leastSubnormal, 0.01, 1.0 / 16}
	still := slices.Clone(taps)
	for i := range still {
		still[i].A, still[i].B, still[i].C, still[i].Each = 0, 0, 0, each[i%len(each)]
	}
	return still
}

// ofNothing returns taps whose steps are nothing.
func ofNothing(taps []impl.Tap) []impl.Tap {
	still := slices.Clone(taps)
	for i := range still {
		still[i].Each = []float32{0, negativeZero}[i%2]
	}
	return still
}

// checkStill compares flows with taps that turn nothing with those without taps.
func checkStill(t *testing.T, f impl.Feeder, voltages []impl.Phases) {
	t.Helper()
	once, ok := impl.SweepOnce(f, voltages)
	if !ok {
		t.Fatalf("SweepOnce: fails")
	}
	flat := repeated(f.Source, len(f.Buses))
	all := tapsOfAll(len(f.Buses))
	for _, taps := range [][]impl.Tap{nil, {}, atNoSteps(all), ofNothing(all), atNoSteps(all[:len(all)/2]), ofNothing(all[len(all)/2:])} {
		expectFlow(t, "SweepTaps at no steps", sweptTaps(t, f, taps, voltages), true, once)
		for _, rounds := range []int64{1, 2, 50} {
			expectFlow(t, "RunTaps at no steps", runTaps(t, f, taps, rounds), true, run(t, f, flat, rounds))
		}
	}
}

// Promise 6: no taps, taps at no steps and steps of nothing change nothing, to the last bit.
func TestTapsAtNoStepsChangeNothing(t *testing.T) {
	for _, parents := range someParents() {
		checkStill(t, treeOf(parents), smallLoads(len(parents)))
		checkStill(t, gentle(parents), repeated(impl.EvenPhases(230), len(parents)))
	}
	for i, f := range oddFeeders() {
		voltages := smallLoads(5)
		voltages[i%5] = oddPhases()[i%len(oddPhases())]
		checkStill(t, f, voltages)
	}
}

// checkTapsAround follows taps, and those whose phases go around, side by side.
func checkTapsAround(t *testing.T, f impl.Feeder, taps []impl.Tap, voltages []impl.Phases) {
	t.Helper()
	nextFeeder, nextTaps := around(t, f), impl.NextTaps(taps)
	nextVoltages := impl.NextFlow(impl.Flow{Voltages: voltages}).Voltages
	expectFlow(t, "SweepTaps around", sweptTaps(t, nextFeeder, nextTaps, nextVoltages), true, impl.NextFlow(sweptTaps(t, f, taps, voltages)))
	for _, rounds := range []int64{1, 2, 11} {
		flow, next := runTaps(t, f, taps, rounds), runTaps(t, nextFeeder, nextTaps, rounds)
		expectFlow(t, "RunTaps around", next, true, impl.NextFlow(flow))
		for _, band := range []float32{0, 3, 100} {
			expectList(t, "InBand around", inBand(t, nextFeeder, next, 230, band), true, inBand(t, f, flow, 230, band))
		}
	}
	for _, most := range []int64{1, 9} {
		followed, changes, ok := impl.AutoTaps(f, taps, 230, 3, 4, most)
		next, nextChanges, nextOk := impl.AutoTaps(nextFeeder, nextTaps, 230, 3, 4, most)
		expectTaps(t, "AutoTaps around", next, ok && nextOk, impl.NextTaps(followed))
		if changes != nextChanges {
			t.Errorf("AutoTaps around: got %d changes, want %d", nextChanges, changes)
		}
	}
}

// Promise 6: phases that go around have flows that go around, to the last bit.
func TestTapsGoAround(t *testing.T) {
	for _, parents := range append(parentsUpTo(5), someParents()[len(parentsUpTo(6)):]...) {
		for _, taps := range someTaps(len(parents)) {
			checkTapsAround(t, gentle(parents), taps, smallLoads(len(parents)))
			checkTapsAround(t, treeOf(parents), taps, repeated(impl.EvenPhases(230), len(parents)))
		}
	}
	for i, f := range oddFeeders() {
		voltages := smallLoads(5)
		voltages[i%5] = oddPhases()[i%len(oddPhases())]
		for _, taps := range someTaps(5) {
			checkTapsAround(t, f, taps, voltages)
		}
	}
}

// Promise 6: ratios and steps go around with their phases.
func TestStepsGoAround(t *testing.T) {
	for i, p := range oddPhases() {
		for _, tap := range append(tapsOfAll(16), impl.Tap{A: 16, B: -16, C: 3, Each: 1.0 / 16}) {
			next := impl.NextTaps([]impl.Tap{tap})[0]
			ratios, _ := impl.RatiosOf(tap)
			nextRatios, ok := impl.RatiosOf(next)
			expect(t, fmt.Sprint("RatiosOf around ", ok), tellNumbers(nextRatios), tellNumbers([]float32{ratios[2], ratios[0], ratios[1]}))
			turned, _ := impl.TurnPhases(p, ratios)
			nextTurned, ok := impl.TurnPhases(impl.NextPhases(p), nextRatios)
			expectPhases(t, fmt.Sprint("TurnPhases around ", ok), nextTurned, impl.NextPhases(turned))
			for _, target := range []float32{0, 1, float32(i), 230} {
				want := impl.NextTaps([]impl.Tap{stepped(t, tap, p, target, 1)})
				got := stepped(t, next, impl.NextPhases(p), target, 1)
				expectTaps(t, "StepTap around", []impl.Tap{got}, true, want)
			}
		}
	}
}

// Promise 6: banks are alike in all phases, so that feeders with them go around too.
func TestBanksGoAround(t *testing.T) {
	sizes := []float32{0.001, -0.002, 0.01, 0.004, 0.01}
	for _, f := range append(oddFeeders(), gentle([]int64{-1}), gentle(rowParents(15)), gentle(starParents(15)), gentle([]int64{-1, 0, 0, 2})) {
		for bus := range int64(len(f.Buses)) {
			banked, _ := impl.AddBank(f, bus, 0.01)
			next, ok := impl.AddBank(around(t, f), bus, 0.01)
			expectFeeder(t, "AddBank around", next, ok, around(t, banked))
			best, isBest := impl.BestBank(f, bus, sizes, 5)
			nextBest, isNext := impl.BestBank(around(t, f), bus, sizes, 5)
			if best != nextBest || isBest != isNext {
				t.Errorf("BestBank around: got %d, %v, want %d, %v", nextBest, isNext, best, isBest)
			}
		}
	}
}
