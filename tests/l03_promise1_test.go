package tests

import (
	"fmt"
	"slices"
	"testing"

	"loop.example/g01212/impl"
)

// tellNumbers tells the digits of numbers.
func tellNumbers(list []float32) string {
	text := ""
	for _, x := range list {
		text += digitsOf(x) + " "
	}
	return text
}

// tellLists3 tells what the functions of a feeder and a list return.
func tellLists3(f impl.Feeder, list []impl.Phases) string {
	loads, isLoads := impl.LoadsAt(f, list)
	currents, isSum := impl.SumBack(f, list)
	voltages, isDrop := impl.DropForth(f, list)
	once, isOnce := impl.SweepOnce(f, list)
	zero, isZero := impl.RunSweeps(f, list, 0)
	more, isMore := impl.RunSweeps(f, list, 3)
	change, isChange := impl.ChangeOf(list, voltages)
	return fmt.Sprintln(phasesListText(loads), isLoads, phasesListText(currents), isSum, phasesListText(voltages), isDrop,
		flowText(once), isOnce, flowText(zero), isZero, flowText(more), isMore, digitsOf(change), isChange)
}

// tellFlow tells what the functions of a feeder and a flow return.
func tellFlow(f impl.Feeder, flow impl.Flow) string {
	rest, isRest := impl.RestOf(f, flow)
	bus, low, isLow := impl.LowestBus(f, flow)
	text := fmt.Sprintln(impl.IsFlow(f, flow), impl.SameFlow(flow, flow), digitsOf(rest), isRest, bus, digitsOf(low), isLow,
		flowText(impl.NextFlow(flow)))
	for at := range int64(4) {
		longs, isPath := impl.LongsAlong(f, flow, at)
		swapped, isSwapped := impl.SwapBuses(f, at)
		text += fmt.Sprintln(tellNumbers(longs), isPath, feederText(swapped), isSwapped)
	}
	for _, p := range flow.Voltages {
		text += digitsOf(impl.WidestPair(p))
	}
	return text
}

// tellSweeps tells what all functions of sweeps return for a feeder.
func tellSweeps(f impl.Feeder) string {
	flat, isFlat := impl.FlatVoltages(f)
	flow, isSolved := impl.SolveFeeder(f, 9, 0.5)
	return fmt.Sprintln(phasesListText(flat), isFlat, flowText(flow), isSolved) + tellLists3(f, flat) + tellFlow(f, flow)
}

// Promise 1: the functions of sweeps return for all arguments, equal results for equal ones.
func TestSweepsReturn(t *testing.T) {
	for what, f := range wrongFeeders() {
		expectTwice(t, what, f, tellSweeps)
	}
	for _, f := range oddFeeders() {
		expectTwice(t, "a feeder with odd numbers", f, tellSweeps)
		copied := impl.Feeder{Source: f.Source, Buses: slices.Clone(f.Buses)}
		expect(t, "a copy of a feeder", tellSweeps(copied), tellSweeps(f))
		for _, list := range wrongLists(5) {
			expectTwice(t, "a list of another length", f, func(f impl.Feeder) string { return tellLists3(f, list) })
		}
		for what, flow := range otherFlows(5) {
			expectTwice(t, what, f, func(f impl.Feeder) string { return tellFlow(f, flow) })
		}
		for _, p := range oddPhases() {
			list := repeated(p, 5)
			expectTwice(t, "a list with odd numbers", f, func(f impl.Feeder) string { return tellLists3(f, list) + tellFlow(f, flowOf(list)) })
		}
	}
}

// Promise 1: functions of sweeps change neither feeders, lists and flows nor what is behind them.
func TestSweepsStay(t *testing.T) {
	mark := impl.Phases{A: 77, B: 66, C: 55}
	for _, parents := range someParents() {
		f := treeOf(parents)
		wholeBuses, buses := guarded(f.Buses, impl.Bus{Parent: 77, Own: 7, Kind: 1})
		f.Buses = buses
		wholeVoltages, voltages := guarded(smallLoads(len(parents)), mark)
		wholeCurrents, currents := guarded(repeated(mark, len(parents)), mark)
		before := fmt.Sprint(feederText(impl.Feeder{Buses: wholeBuses}), phasesListText(wholeVoltages), phasesListText(wholeCurrents))
		tellSweeps(f)
		tellLists3(f, voltages)
		tellFlow(f, impl.Flow{Voltages: voltages, Currents: currents, Rounds: 3, Rests: true})
		for bus := range int64(len(parents)) {
			impl.LongsAlong(f, impl.Flow{Voltages: voltages, Currents: currents}, bus)
			impl.SwapBuses(f, bus)
		}
		impl.ChangeOf(currents, voltages)
		after := fmt.Sprint(feederText(impl.Feeder{Buses: wholeBuses}), phasesListText(wholeVoltages), phasesListText(wholeCurrents))
		expect(t, "arguments behind all functions", after, before)
	}
}

// spoilPhases changes all of a list, and what is behind it.
func spoilPhases(list []impl.Phases) {
	whole := list[:cap(list)]
	for i := range whole {
		whole[i] = impl.Phases{A: 11, B: 22, C: 33}
	}
}

// spoilFlow changes the lists of a flow, of which each must have its own memory.
func spoilFlow(t *testing.T, what string, flow impl.Flow) {
	t.Helper()
	currents := phasesListText(flow.Currents)
	spoilPhases(flow.Voltages)
	expect(t, "currents of "+what+" behind changed voltages", phasesListText(flow.Currents), currents)
	spoilPhases(flow.Currents)
}

// Promise 1: lists, flows and feeders that are returned are new each time.
func TestSweepsAreNew(t *testing.T) {
	for _, parents := range [][]int64{{-1}, {-1, 0, 0, 1}} {
		f, list := gentle(parents), smallLoads(len(parents))
		flow := flowOf(list)
		before := fmt.Sprint(feederText(f), flowText(flow), tellSweeps(f), tellLists3(f, list), tellFlow(f, flow))
		for i, half := range []func(impl.Feeder, []impl.Phases) ([]impl.Phases, bool){impl.LoadsAt, impl.SumBack, impl.DropForth} {
			result, ok := half(f, list)
			if !ok {
				t.Errorf("half %d: fails", i)
			}
			spoilPhases(result)
		}
		flat, _ := impl.FlatVoltages(f)
		spoilPhases(flat)
		for rounds := range int64(3) {
			spoilFlow(t, "RunSweeps", run(t, f, list, rounds))
		}
		once, _ := impl.SweepOnce(f, list)
		spoilFlow(t, "SweepOnce", once)
		spoilFlow(t, "SolveFeeder", solved(t, f, 5, 0))
		spoilFlow(t, "NextFlow", impl.NextFlow(flow))
		longs, _ := impl.LongsAlong(f, flow, 0)
		clear(longs)
		if swapped, ok := impl.SwapBuses(f, 1); ok {
			spoil(swapped)
		}
		expect(t, "all behind changed results", fmt.Sprint(feederText(f), flowText(flow), tellSweeps(f), tellLists3(f, list), tellFlow(f, flow)), before)
	}
}

// checkListFails calls all functions of a feeder and a list that must fail.
func checkListFails(t *testing.T, what string, f impl.Feeder, list []impl.Phases) {
	t.Helper()
	loads, ok := impl.LoadsAt(f, list)
	expectFailure(t, "LoadsAt with "+what, len(loads) == 0, ok)
	currents, ok := impl.SumBack(f, list)
	expectFailure(t, "SumBack with "+what, len(currents) == 0, ok)
	voltages, ok := impl.DropForth(f, list)
	expectFailure(t, "DropForth with "+what, len(voltages) == 0, ok)
	flow, ok := impl.SweepOnce(f, list)
	expectNoFlow(t, "SweepOnce with "+what, flow, ok)
	for _, rounds := range []int64{0, 1, 50} {
		flow, ok = impl.RunSweeps(f, list, rounds)
		expectNoFlow(t, "RunSweeps with "+what, flow, ok)
	}
}

// checkFlowFails calls all functions of a feeder and a flow that must fail.
func checkFlowFails(t *testing.T, what string, f impl.Feeder, flow impl.Flow) {
	t.Helper()
	rest, ok := impl.RestOf(f, flow)
	expectFailure(t, "RestOf with "+what, digitsOf(rest) == digitsOf(0), ok)
	bus, low, ok := impl.LowestBus(f, flow)
	expectFailure(t, "LowestBus with "+what, bus == 0 && digitsOf(low) == digitsOf(0), ok)
	for at := int64(-1); at < 3; at++ {
		longs, ok := impl.LongsAlong(f, flow, at)
		expectFailure(t, "LongsAlong with "+what, len(longs) == 0, ok)
	}
}

// Promise 1: feeders that are not valid make functions fail with zero values.
func TestSweepsOfWrongFeedersFail(t *testing.T) {
	for what, f := range wrongFeeders() {
		list := repeated(impl.Phases{A: 1, B: 2, C: 3}, len(f.Buses))
		checkListFails(t, what, f, list)
		checkFlowFails(t, what, f, flowOf(list))
		flat, ok := impl.FlatVoltages(f)
		expectFailure(t, "FlatVoltages with "+what, len(flat) == 0, ok)
		flow, ok := impl.SolveFeeder(f, 3, 0)
		expectNoFlow(t, "SolveFeeder with "+what, flow, ok)
	}
}

// Promise 1: lists of another length, and flows that are none of the feeder, make functions fail.
func TestSweepsOfWrongListsFail(t *testing.T) {
	for _, parents := range [][]int64{{-1}, {-1, 0, 0, 1}, rowParents(16)} {
		f := treeOf(parents)
		for _, list := range wrongLists(len(parents)) {
			checkListFails(t, fmt.Sprint(len(list), " of ", len(parents)), f, list)
		}
		for what, flow := range otherFlows(len(parents)) {
			checkFlowFails(t, what, f, flow)
		}
		for _, bus := range absentBuses(f) {
			longs, ok := impl.LongsAlong(f, flowOf(smallLoads(len(parents))), bus)
			expectFailure(t, fmt.Sprint("LongsAlong to ", bus), len(longs) == 0, ok)
		}
	}
}

// Promise 1: rounds beyond their limits, and bounds that are negative or not finite, make functions fail.
func TestWrongRoundsFail(t *testing.T) {
	for _, parents := range [][]int64{{-1}, {-1, 0, 0, 1}} {
		f := treeOf(parents)
		for _, rounds := range wrongRounds(0) {
			flow, ok := impl.RunSweeps(f, smallLoads(len(parents)), rounds)
			expectNoFlow(t, fmt.Sprint("RunSweeps of ", rounds), flow, ok)
		}
		for _, rounds := range wrongRounds(1) {
			flow, ok := impl.SolveFeeder(f, rounds, 1)
			expectNoFlow(t, fmt.Sprint("SolveFeeder of ", rounds), flow, ok)
		}
		for _, near := range []float32{-leastSubnormal, -1, -greatestNumber, positiveInfinity, negativeInfinity, notANumber} {
			flow, ok := impl.SolveFeeder(f, 1, near)
			expectNoFlow(t, fmt.Sprint("SolveFeeder to ", near), flow, ok)
		}
	}
}
