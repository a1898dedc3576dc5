package tests

import (
	"fmt"
	"math"
	"slices"
	"testing"

	"loop.example/g01212/impl"
)

// tellTaps tells what the functions of a feeder and taps return.
func tellTaps(f impl.Feeder, taps []impl.Tap, voltages []impl.Phases) string {
	once, isOnce := impl.SweepTaps(f, taps, voltages)
	more, isMore := impl.RunTaps(f, taps, 3)
	followed, changes, isAuto := impl.AutoTaps(f, taps, 200, 3, 2, 5)
	in, isIn := impl.InBand(f, impl.Flow{Voltages: voltages, Currents: voltages}, 3, 2)
	text := fmt.Sprintln(impl.AreTaps(f, taps), impl.SameTaps(taps, taps), flowText(once), isOnce, flowText(more), isMore,
		tapsText(followed), changes, isAuto, in, isIn, tapsText(impl.NextTaps(taps)))
	for _, tap := range taps {
		ratios, isTap := impl.RatiosOf(tap)
		turned, isTurned := impl.TurnPhases(f.Source, ratios)
		next, isNext := impl.StepTap(tap, f.Source, 200, 3)
		text += fmt.Sprintln(tellNumbers(ratios), isTap, phasesText(turned), isTurned, tapText(next), isNext)
	}
	return text
}

// tellBanks tells what the functions of banks return.
func tellBanks(f impl.Feeder, sizes []float32) string {
	text := ""
	for _, bus := range append(absentBuses(f), 0, 1, 3) {
		best, isBest := impl.BestBank(f, bus, sizes, 3)
		text += fmt.Sprintln(best, isBest)
		for _, size := range sizes {
			banked, isBanked := impl.AddBank(f, bus, size)
			text += fmt.Sprintln(feederText(banked), isBanked)
		}
	}
	return text
}

// Promise 1: the functions of taps return for all arguments, equal results for equal ones.
func TestTapsReturn(t *testing.T) {
	for what, f := range wrongFeeders() {
		voltages := repeated(impl.Phases{A: 1}, len(f.Buses))
		for _, taps := range [][]impl.Tap{nil, tapsAt(1), tapsAt(1, 2, 3), tapsOfAll(17), anyTaps()} {
			expectTwice(t, what, f, func(f impl.Feeder) string { return tellTaps(f, taps, voltages) })
		}
		expectTwice(t, what, f, func(f impl.Feeder) string { return tellBanks(f, oddNumbers()) })
	}
	for what, taps := range wrongTaps(5) {
		expectTwice(t, what, gentle(rowParents(5)), func(f impl.Feeder) string { return tellTaps(f, taps, smallLoads(5)) })
	}
	for i, f := range oddFeeders() {
		copied := impl.Feeder{Source: f.Source, Buses: slices.Clone(f.Buses)}
		voltages := repeated(oddPhases()[i%len(oddPhases())], 5)
		for _, taps := range append(someTaps(5), tapsAt(2, 1), anyTaps()) {
			expect(t, "a copy of taps", tellTaps(copied, slices.Clone(taps), slices.Clone(voltages)), tellTaps(f, taps, voltages))
		}
		for _, sizes := range [][]float32{nil, {0.01}, {0.01, -0.01, 3}, oddNumbers()} {
			expect(t, "a copy of sizes", tellBanks(copied, slices.Clone(sizes)), tellBanks(f, sizes))
		}
	}
}

// Promise 1: functions of taps change neither feeders, taps and lists nor what is behind them.
func TestTapsStay(t *testing.T) {
	mark := impl.Phases{A: 77, B: 66, C: 55}
	for _, parents := range someParents() {
		f := treeOf(parents)
		wholeBuses, buses := guarded(f.Buses, impl.Bus{Parent: 77, Own: 7, Kind: 1})
		f.Buses = buses
		wholeTaps, taps := guarded(tapsOfAll(len(parents)), impl.Tap{Bus: 77, A: 7})
		wholeVoltages, voltages := guarded(smallLoads(len(parents)), mark)
		wholeNumbers, numbers := guarded([]float32{0.5, -1, 2}, 77)
		tell := func() string {
			return feederText(impl.Feeder{Source: f.Source, Buses: wholeBuses}) + tapsText(wholeTaps) + phasesListText(wholeVoltages) + tellNumbers(wholeNumbers)
		}
		before := tell()
		tellTaps(f, taps, voltages)
		tellBanks(f, numbers)
		impl.AutoTaps(f, taps, 8, 0, 50, 40)
		impl.SameTaps(taps, tapsOfAll(len(parents)))
		impl.TurnPhases(mark, numbers)
		for bus := range int64(len(parents)) {
			impl.AddBank(f, bus, 0.5)
			impl.BestBank(f, bus, numbers, 1)
		}
		expect(t, "arguments behind all functions", tell(), before)
	}
}

// spoilTaps changes all taps of a list.
func spoilTaps(taps []impl.Tap) {
	whole := taps[:cap(taps)]
	for i := range whole {
		whole[i] = impl.Tap{Bus: 99, A: 9, B: 9, C: 9, Each: 9}
	}
}

// Promise 1: lists that are returned are new each time.
func TestTapsAreNew(t *testing.T) {
	for _, parents := range [][]int64{{-1}, {-1, 0, 0, 1}, rowParents(15)} {
		f, taps, voltages := gentle(parents), tapsOfAll(len(parents)), smallLoads(len(parents))
		numbers := []float32{0.5, 1, 2}
		tell := func() string {
			return feederText(f) + tapsText(taps) + phasesListText(voltages) + tellNumbers(numbers) + tellTaps(f, taps, voltages) + tellBanks(f, numbers)
		}
		before := tell()
		spoilFlow(t, "SweepTaps", sweptTaps(t, f, taps, voltages))
		spoilFlow(t, "RunTaps", runTaps(t, f, taps, 1))
		for _, most := range []int64{0, 1, 40} {
			followed, _, _ := impl.AutoTaps(f, taps, 230, 1, 2, most)
			spoilTaps(followed)
		}
		spoilTaps(impl.NextTaps(taps))
		for _, tap := range taps {
			ratios, _ := impl.RatiosOf(tap)
			clear(ratios[:cap(ratios)])
		}
		set := inBand(t, f, impl.Flow{Voltages: voltages, Currents: voltages}, 3, greatestNumber)
		clear(set[:cap(set)])
		banked, _ := impl.AddBank(f, 0, 0.5)
		spoil(banked)
		expect(t, "all behind changed results", tell(), before)
	}
}

// checkTapsFail calls all functions of a feeder and taps that must fail.
func checkTapsFail(t *testing.T, what string, f impl.Feeder, taps []impl.Tap) {
	t.Helper()
	flow, ok := impl.SweepTaps(f, taps, repeated(impl.Phases{A: 1}, len(f.Buses)))
	expectNoFlow(t, "SweepTaps with "+what, flow, ok)
	for _, rounds := range []int64{1, 50} {
		flow, ok = impl.RunTaps(f, taps, rounds)
		expectNoFlow(t, "RunTaps with "+what, flow, ok)
		for _, most := range []int64{0, 40} {
			followed, changes, ok := impl.AutoTaps(f, taps, 8, 1, rounds, most)
			expectFailure(t, "AutoTaps with "+what, len(followed) == 0 && changes == 0, ok)
		}
	}
}

// Promise 1: feeders that are not valid, and taps that are none of them, make functions fail with zero values.
func TestWrongTapsFail(t *testing.T) {
	for what, f := range wrongFeeders() {
		for _, taps := range [][]impl.Tap{nil, tapsAt(1), tapsAt(1, 2)} {
			checkTapsFail(t, what, f, taps)
		}
		set, ok := impl.InBand(f, flowOf(repeated(impl.Phases{A: 1}, len(f.Buses))), 1, 1)
		expectFailure(t, "InBand with "+what, len(set) == 0, ok)
		for bus := range int64(3) {
			banked, ok := impl.AddBank(f, bus, 0.5)
			expectNoFeeder(t, "AddBank with "+what, banked, ok)
			best, ok := impl.BestBank(f, bus, []float32{0.5, 0.25}, 1)
			expectFailure(t, "BestBank with "+what, best == 0, ok)
		}
	}
	for _, count := range []int{4, 16} {
		for what, taps := range wrongTaps(count) {
			checkTapsFail(t, what, treeOf(rowParents(count)), taps)
		}
	}
	checkTapsFail(t, "a tap at a root alone", treeOf([]int64{-1}), tapsAt(0))
}

// Promise 1: steps and an Each beyond their limits, and targets and bands that are none, make functions of a tap fail.
func TestWrongTapFails(t *testing.T) {
	for what, tap := range wrongTap(1) {
		ratios, ok := impl.RatiosOf(tap)
		expectFailure(t, "RatiosOf with "+what, len(ratios) == 0, ok)
		for _, voltage := range []complex64{7, 8, 9, complex(notANumber, 0)} {
			next, ok := impl.StepTap(tap, sameThree(voltage), 8, 0.5)
			expectFailure(t, "StepTap with "+what, tapText(next) == tapText(impl.Tap{}), ok)
		}
	}
	f, flow := treeOf([]int64{-1, 0, 1}), flowOf(smallLoads(3))
	for _, wrong := range wrongBounds() {
		for _, bounds := range [][2]float32{{wrong, 1}, {1, wrong}, {wrong, wrong}, {wrong, 0}, {0, wrong}, {greatestNumber, wrong}} {
			what := fmt.Sprint(bounds)
			next, ok := impl.StepTap(impl.Tap{Bus: 1, A: 1, Each: 0.01}, sameThree(3), bounds[0], bounds[1])
			expectFailure(t, "StepTap to "+what, tapText(next) == tapText(impl.Tap{}), ok)
			set, ok := impl.InBand(f, flow, bounds[0], bounds[1])
			expectFailure(t, "InBand of "+what, len(set) == 0, ok)
			for _, taps := range [][]impl.Tap{nil, tapsAt(1)} {
				followed, changes, ok := impl.AutoTaps(f, taps, bounds[0], bounds[1], 1, 0)
				expectFailure(t, "AutoTaps to "+what, len(followed) == 0 && changes == 0, ok)
			}
		}
	}
}

// Promise 1: other numbers of ratios, voltages, rounds and times, and flows that are none, make functions fail.
func TestWrongListsOfTapsFail(t *testing.T) {
	for _, count := range []int{0, 1, 2, 4, 5, 6, 256, 1000} {
		turned, ok := impl.TurnPhases(impl.Phases{A: 1, B: 2, C: 3}, repeated(float32(1), count))
		expectFailure(t, fmt.Sprint("TurnPhases by ", count), phasesText(turned) == phasesText(impl.Phases{}), ok)
	}
	turned, ok := impl.TurnPhases(impl.Phases{A: 1}, nil)
	expectFailure(t, "TurnPhases by nil", phasesText(turned) == phasesText(impl.Phases{}), ok)
	for _, parents := range [][]int64{{-1}, {-1, 0, 0, 1}, rowParents(16)} {
		f, taps := treeOf(parents), tapsOfAll(len(parents))
		for _, list := range wrongLists(len(parents)) {
			flow, ok := impl.SweepTaps(f, taps, list)
			expectNoFlow(t, fmt.Sprint("SweepTaps at ", len(list)), flow, ok)
		}
		for what, flow := range otherFlows(len(parents)) {
			set, ok := impl.InBand(f, flow, 1, 1)
			expectFailure(t, "InBand with "+what, len(set) == 0, ok)
		}
		for _, rounds := range wrongRounds(1) {
			flow, ok := impl.RunTaps(f, taps, rounds)
			expectNoFlow(t, fmt.Sprint("RunTaps of ", rounds), flow, ok)
			for _, most := range []int64{0, 1, 40} {
				followed, changes, ok := impl.AutoTaps(f, taps, 8, 1, rounds, most)
				expectFailure(t, fmt.Sprint("AutoTaps of ", rounds), len(followed) == 0 && changes == 0, ok)
			}
		}
		for _, most := range []int64{-1, -2, 41, 42, 1 << 32, math.MinInt64, math.MaxInt64} {
			followed, changes, ok := impl.AutoTaps(f, taps, 8, 1, 1, most)
			expectFailure(t, fmt.Sprint("AutoTaps of ", most, " times"), len(followed) == 0 && changes == 0, ok)
		}
	}
}

// expectNoBest reports an index that is not the zero value of a failure.
func expectNoBest(t *testing.T, f impl.Feeder, bus int64, sizes []float32, rounds int64) {
	t.Helper()
	best, ok := impl.BestBank(f, bus, sizes, rounds)
	expectFailure(t, fmt.Sprint("BestBank at ", bus, " of ", sizes, " in ", rounds), best == 0, ok)
}

// Promise 1: sizes, buses and rounds that are none, and feeders without a lowest voltage, make banks fail.
func TestWrongBanksFail(t *testing.T) {
	f := loaded()
	for _, size := range []float32{0, negativeZero, positiveInfinity, negativeInfinity, notANumber} {
		banked, ok := impl.AddBank(f, 1, size)
		expectNoFeeder(t, fmt.Sprint("AddBank of ", size), banked, ok)
		for at := range 3 {
			sizes := []float32{0.25, 0.125, 0.375}
			sizes[at] = size
			expectNoBest(t, f, 1, sizes, 1)
			expectNoBest(t, f, 1, sizes[at:at+1], 0)
		}
	}
	for _, bus := range absentBuses(f) {
		banked, ok := impl.AddBank(f, bus, 0.5)
		expectNoFeeder(t, fmt.Sprint("AddBank at ", bus), banked, ok)
		expectNoBest(t, f, bus, []float32{0.125, 0.25}, 1)
	}
	for _, count := range []int{0, 17, 18, 256, 1000} {
		expectNoBest(t, f, 1, repeated(float32(0.25), count), 1)
	}
	for _, rounds := range wrongRounds(0) {
		expectNoBest(t, f, 1, []float32{0.125, 0.25}, rounds)
	}
	f.Source = impl.Phases{A: complex(notANumber, 1), B: complex(1, notANumber), C: complex(notANumber, notANumber)}
	for _, rounds := range []int64{0, 1, 2, 50} {
		expectNoBest(t, f, 1, []float32{0.25}, rounds)
		expectNoBest(t, f, 0, []float32{0.125, 0.25}, rounds)
	}
}
