package tests

import (
	"fmt"
	"slices"
	"testing"

	"loop.example/g01212/impl"
)

// turnedAt returns phases at a bus, turned if it has a tap.
func turnedAt(taps []impl.Tap, bus int, p impl.Phases) impl.Phases {
	for _, tap := range taps {
		if tap.Bus == int64(bus) {
			ratios, _ := impl.RatiosOf(tap)
			p, _ = impl.TurnPhases(p, ratios)
		}
	}
	return p
}

// lineCurrent returns the current of the line to a bus, with those of all lines behind it.
func lineCurrent(f impl.Feeder, taps []impl.Tap, voltages []impl.Phases, bus int) impl.Phases {
	current := impl.LoadCurrentOf(f.Buses[bus], voltages[bus])
	for child, b := range slices.Backward(f.Buses) {
		if b.Parent == int64(bus) {
			current = impl.AddPhases(current, lineCurrent(f, taps, voltages, child))
		}
	}
	return turnedAt(taps, bus, current)
}

// tappedSweep makes one round with taps, bus by bus.
func tappedSweep(f impl.Feeder, taps []impl.Tap, voltages []impl.Phases) impl.Flow {
	flow := impl.Flow{Rounds: 1}
	for bus, b := range f.Buses {
		current := lineCurrent(f, taps, voltages, bus)
		voltage := f.Source
		if bus > 0 {
			voltage = turnedAt(taps, bus, impl.LessPhases(flow.Voltages[b.Parent], impl.DropOf(b, current)))
		}
		flow.Currents, flow.Voltages = append(flow.Currents, current), append(flow.Voltages, voltage)
	}
	return flow
}

// Promise 6: a tap turns the current before it is added and dropped, and the voltage behind the drop.
func TestSweepTapsOfTheExample(t *testing.T) {
	f := impl.Feeder{Source: sameThree(8), Buses: []impl.Bus{
		{Parent: -1},
		{Parent: 0, Own: 1, Kind: impl.LoadCurrent, Load: impl.Phases{A: 2}},
		{Parent: 0, Own: 1, Kind: impl.LoadCurrent, Load: impl.Phases{B: 1}},
		{Parent: 1, Own: 2, Kind: impl.LoadCurrent, Load: impl.Phases{A: 1}},
	}}
	flat := repeated(f.Source, 4)
	want := impl.Flow{Rounds: 1,
		Voltages: []impl.Phases{f.Source, {A: 5.25, B: 4, C: 8}, {A: 8, B: 7, C: 8}, {A: 3.25, B: 4, C: 8}},
		Currents: []impl.Phases{{A: 4.5, B: 1}, {A: 4.5}, {B: 1}, {A: 1}},
	}
	first := impl.Tap{Bus: 1, A: 8, B: -8, Each: 1.0 / 16}
	expectFlow(t, "SweepTaps", sweptTaps(t, f, []impl.Tap{first}, flat), true, want)
	want.Voltages[3], want.Currents = impl.Phases{A: 4.5}, []impl.Phases{{A: 6, B: 1}, {A: 6}, {B: 1}, {A: 2}}
	want.Voltages[1] = impl.Phases{A: 3, B: 4, C: 8}
	want.Voltages[3] = impl.Phases{A: -2, B: 0, C: 8}
	both := []impl.Tap{first, {Bus: 3, A: 16, B: -16, Each: 1.0 / 16}}
	expectFlow(t, "SweepTaps", sweptTaps(t, f, both, flat), true, want)
}

// Promise 6: rounds with taps on all trees are what the document tells, to the last bit.
func TestSweepTaps(t *testing.T) {
	for _, parents := range someParents() {
		for _, f := range []impl.Feeder{treeOf(parents), gentle(parents)} {
			voltages := smallLoads(len(parents))
			for _, taps := range someTaps(len(parents)) {
				expectFlow(t, "SweepTaps", sweptTaps(t, f, taps, voltages), true, tappedSweep(f, taps, voltages))
			}
		}
	}
}

// Promise 6: so are those with infinities, not-a-numbers and zeros with signs.
func TestSweepTapsOfOddNumbers(t *testing.T) {
	for _, f := range oddFeeders() {
		for i, p := range oddPhases() {
			voltages := smallLoads(5)
			voltages[i%5], voltages[(i+2)%5] = p, impl.NextPhases(p)
			for _, taps := range someTaps(5) {
				expectFlow(t, "SweepTaps", sweptTaps(t, f, taps, voltages), true, tappedSweep(f, taps, voltages))
			}
		}
	}
}

// Promise 6: a tap without any ratio left takes no current and gives no voltage.
func TestRatiosOfZero(t *testing.T) {
	f := currentFeeder([]int64{-1, 0, 1})
	tap := impl.Tap{Bus: 1, A: -16, B: -16, C: -16, Each: 1.0 / 16}
	flow := sweptTaps(t, f, []impl.Tap{tap}, repeated(f.Source, 3))
	for place := range 3 {
		if flow.Voltages[1] != (impl.Phases{}) || phaseAt(flow.Currents[1], place) != 0 || phaseAt(flow.Currents[0], place) != phaseAt(f.Buses[0].Load, place) {
			t.Errorf("SweepTaps with ratios of 0: got %s", flowText(flow))
		}
	}
}

// Promise 6: rounds with taps are made one after another from flat voltages on.
func TestRunTaps(t *testing.T) {
	feeders := append(oddFeeders()[:20], treeOf([]int64{-1}), gentle(rowParents(16)), gentle(starParents(16)), halving(0.5), halving(4))
	for _, f := range feeders {
		for _, taps := range [][]impl.Tap{nil, tapsOfAll(len(f.Buses))} {
			voltages := repeated(f.Source, len(f.Buses))
			for rounds := int64(1); rounds <= 50; rounds++ {
				want := sweptTaps(t, f, taps, voltages)
				if want.Rounds != 1 || want.Rests {
					t.Errorf("SweepTaps: got %d rounds, %v", want.Rounds, want.Rests)
				}
				want.Rounds = rounds
				expectFlow(t, fmt.Sprint("RunTaps of ", rounds), runTaps(t, f, taps, rounds), true, want)
				voltages = want.Voltages
			}
		}
	}
}
