package tests

import (
	"fmt"
	"slices"
	"testing"

	"loop.example/g01212/impl"
)

// tellBalances tells what the functions of a feeder and a flow return.
func tellBalances(f impl.Feeder, flow impl.Flow) string {
	losses, isLosses := impl.LossesOf(f, flow)
	loads, isLoads := impl.LoadPowersOf(f, flow)
	source, isSource := impl.SourcePowerOf(f, flow)
	total, isTotal := impl.TotalPower(losses)
	left, isLeft := impl.PowerBalanceOf(f, flow)
	share, isShare := impl.LossShareOf(f, flow)
	off, isOff := impl.MismatchOf(f, flow)
	text := fmt.Sprintln(complexListText(losses), isLosses, complexListText(loads), isLoads, partsOf(source), isSource, partsOf(total), isTotal,
		partsOf(left), isLeft, digitsOf(share), isShare, digitsOf(off), isOff, digitsOf(impl.FactorOf(source)), digitsOf(impl.UnbalanceOf(f.Source)),
		partsOf(impl.PowerBetween(f.Source, f.Source)))
	for bus := int64(-1); bus < 6; bus++ {
		drop, isDrop := impl.DropShareOf(f, flow, bus)
		text += fmt.Sprintln(digitsOf(drop), isDrop)
	}
	for _, bound := range oddNumbers() {
		over, isOver := impl.OverLoads(f, flow, bound)
		under, isUnder := impl.UnderVoltages(f, flow, bound)
		text += fmt.Sprintln(over, isOver, under, isUnder)
	}
	return text
}

// Promise 1: the functions of balances return for all arguments, equal results for equal ones.
func TestBalancesReturn(t *testing.T) {
	for what, f := range wrongFeeders() {
		flow := flowOf(repeated(impl.Phases{A: 1}, len(f.Buses)))
		expectTwice(t, what, f, func(f impl.Feeder) string { return tellBalances(f, flow) })
	}
	for _, f := range oddFeeders() {
		copied := impl.Feeder{Source: f.Source, Buses: slices.Clone(f.Buses)}
		for _, flow := range oddFlows(len(f.Buses)) {
			other := impl.Flow{Voltages: slices.Clone(flow.Voltages), Currents: slices.Clone(flow.Currents), Rounds: 17, Rests: !flow.Rests}
			expect(t, "a copy of a flow with other rounds", tellBalances(copied, other), tellBalances(f, flow))
		}
	}
	for what, flow := range otherFlows(5) {
		expectTwice(t, what, gentle([]int64{-1, 0, 1, 1, 0}), func(f impl.Feeder) string { return tellBalances(f, flow) })
	}
}

// Promise 1: functions of balances change neither feeders, lists and flows nor what is behind them.
func TestBalancesStay(t *testing.T) {
	mark := impl.Phases{A: 77, B: 66, C: 55}
	for _, parents := range someParents() {
		f := treeOf(parents)
		wholeBuses, buses := guarded(f.Buses, impl.Bus{Parent: 77, Own: 7, Kind: 1})
		f.Buses = buses
		wholeVoltages, voltages := guarded(smallLoads(len(parents)), mark)
		wholeCurrents, currents := guarded(repeated(mark, len(parents)), mark)
		tell := func() string {
			return feederText(impl.Feeder{Source: f.Source, Buses: wholeBuses}) + phasesListText(wholeVoltages) + phasesListText(wholeCurrents)
		}
		before := tell()
		tellBalances(f, impl.Flow{Voltages: voltages, Currents: currents, Rounds: 3})
		for bus := range int64(len(parents)) {
			impl.DropShareOf(f, impl.Flow{Voltages: voltages, Currents: currents}, bus)
		}
		expect(t, "arguments behind all functions", tell(), before)
	}
	wholePowers, powers := guarded([]complex64{1, complex(2, 3), -4}, 77)
	impl.TotalPower(powers)
	expectComplexList(t, "powers behind TotalPower", wholePowers, []complex64{1, complex(2, 3), -4, 77, 77, 77})
}

// Promise 1: lists that are returned are new each time.
func TestBalancesAreNew(t *testing.T) {
	for _, parents := range [][]int64{{-1}, {-1, 0, 0, 1}, rowParents(16)} {
		f, flow := treeOf(parents), flowOf(smallLoads(len(parents)))
		before := feederText(f) + flowText(flow) + tellBalances(f, flow)
		for _, powers := range [][]complex64{ofFlow(t, f, flow, impl.LossesOf), ofFlow(t, f, flow, impl.LoadPowersOf)} {
			for i := range powers[:cap(powers)] {
				powers[:cap(powers)][i] = 99
			}
		}
		for _, set := range [][]int64{ofFlow(t, f, flow, overLoads(0)), ofFlow(t, f, flow, underVoltages(greatestNumber))} {
			for i := range set[:cap(set)] {
				set[:cap(set)][i] = 99
			}
		}
		expect(t, "all behind changed results", feederText(f)+flowText(flow)+tellBalances(f, flow), before)
	}
}

// checkBalancesFail calls all functions of a feeder and a flow that must fail.
func checkBalancesFail(t *testing.T, what string, f impl.Feeder, flow impl.Flow) {
	t.Helper()
	for _, of := range []func(impl.Feeder, impl.Flow) ([]complex64, bool){impl.LossesOf, impl.LoadPowersOf} {
		powers, ok := of(f, flow)
		expectFailure(t, "powers with "+what, len(powers) == 0, ok)
	}
	for _, of := range []func(impl.Feeder, impl.Flow) (complex64, bool){impl.SourcePowerOf, impl.PowerBalanceOf} {
		power, ok := of(f, flow)
		expectFailure(t, "a power with "+what, partsOf(power) == partsOf(0), ok)
	}
	numbers := []func(impl.Feeder, impl.Flow) (float32, bool){impl.LossShareOf, impl.MismatchOf, dropShareAt(-1), dropShareAt(0), dropShareAt(1)}
	for _, of := range numbers {
		number, ok := of(f, flow)
		expectFailure(t, "a number with "+what, digitsOf(number) == digitsOf(0), ok)
	}
	for _, bound := range []float32{-1, 2, 1000, notANumber} {
		for _, of := range []func(impl.Feeder, impl.Flow) ([]int64, bool){overLoads(bound), underVoltages(bound)} {
			set, ok := of(f, flow)
			expectFailure(t, "a set with "+what, len(set) == 0, ok)
		}
	}
}

// Promise 1: feeders that are not valid, and flows that are none of them, make functions fail with zero values.
func TestBalancesOfWrongFlowsFail(t *testing.T) {
	for what, f := range wrongFeeders() {
		checkBalancesFail(t, what, f, flowOf(repeated(impl.Phases{A: 1, B: 2, C: 3}, len(f.Buses))))
	}
	for _, parents := range [][]int64{{-1}, {-1, 0, 0, 1}, rowParents(16)} {
		for what, flow := range otherFlows(len(parents)) {
			checkBalancesFail(t, what, treeOf(parents), flow)
		}
	}
}

// Promise 1: buses that are not there, and lists beyond the limit, make functions fail with zero values.
func TestAbsentSharesFail(t *testing.T) {
	for _, parents := range [][]int64{{-1}, {-1, 0, 0, 1}, rowParents(16)} {
		f := treeOf(parents)
		for _, bus := range absentBuses(f) {
			share, ok := impl.DropShareOf(f, flowOf(smallLoads(len(parents))), bus)
			expectFailure(t, fmt.Sprint("DropShareOf ", bus), digitsOf(share) == digitsOf(0), ok)
		}
	}
	for _, count := range []int{17, 18, 256, 257, 1000} {
		total, ok := impl.TotalPower(repeated(complex64(complex(1, 2)), count))
		expectFailure(t, fmt.Sprint("TotalPower of ", count), partsOf(total) == partsOf(0), ok)
	}
}
