package tests

import (
	"fmt"
	"slices"
	"testing"

	"loop.example/g01212/impl"
)

// tellParts tells what the functions of phases and their parts return.
func tellParts(p impl.Phases) string {
	parts := componentsFrom(p)
	zero, plus := impl.SequenceOf(p.A, p.B)
	text := fmt.Sprintln(componentsText(impl.PartsOf(p)), phasesText(impl.PhasesOf(parts)), impl.SameParts(parts, impl.PartsOf(p)),
		digitsOf(impl.MinusShareOf(p)), partsOf(impl.GroundCurrentOf(p)), partsOf(zero), partsOf(plus), digitsOf(impl.GreatestOf(p)))
	for _, kind := range append(faultKinds(), wrongKinds()...) {
		for _, through := range []complex64{0, 1, p.A, -p.C} {
			fault, ok := impl.FaultParts(p.A, p.B, p.C, kind, through)
			text += fmt.Sprintln(componentsText(fault), ok)
		}
	}
	return text
}

// tellFaults tells what the functions of faults in a feeder return.
func tellFaults(f impl.Feeder, kind int64, through complex64) string {
	table, isTable := impl.FaultTable(f, kind, through)
	weakest, least, isWeakest := impl.WeakestFault(f, kind, through)
	text := fmt.Sprintln(tellNumbers(table), isTable, weakest, digitsOf(least), isWeakest)
	for bus := int64(-1); bus < 6; bus++ {
		currents, isFault := impl.FaultCurrents(f, bus, kind, through)
		text += fmt.Sprintln(phasesText(currents), isFault)
		for at := int64(-1); at < 6; at++ {
			voltages, isThere := impl.FaultVoltages(f, bus, kind, through, at)
			common, isCommon := impl.CommonPath(f, bus, at)
			text += fmt.Sprintln(phasesText(voltages), isThere, common, isCommon)
		}
	}
	return text
}

// Promise 1: the functions of parts and faults return for all arguments, equal results for equal ones.
func TestFaultsReturn(t *testing.T) {
	for i, p := range oddPhases() {
		expectTwice(t, "odd phases", p, tellParts)
		for j, q := range oddPhases() {
			expectTwice(t, "a mix of odd phases", impl.Phases{A: p.A, B: q.B, C: oddPhases()[(i+j)%len(oddPhases())].C}, tellParts)
		}
	}
	for what, f := range wrongFeeders() {
		for _, kind := range append(faultKinds(), wrongKinds()...) {
			expectTwice(t, what, f, func(f impl.Feeder) string { return tellFaults(f, kind, 1) })
		}
	}
	for i, f := range oddFeeders() {
		copied := impl.Feeder{Source: f.Source, Buses: slices.Clone(f.Buses)}
		for _, kind := range append(faultKinds(), -1, 4) {
			for _, through := range []complex64{0, oddPhases()[i%len(oddPhases())].A, complex(0.5, -1)} {
				expect(t, "a copy of a feeder", tellFaults(copied, kind, through), tellFaults(f, kind, through))
			}
		}
	}
}

// Promise 1: functions of faults change neither feeders nor what is behind them.
func TestFaultsStay(t *testing.T) {
	for _, parents := range someParents() {
		f := treeOf(parents)
		whole, buses := guarded(f.Buses, impl.Bus{Parent: 77, Own: 7, Kind: 1})
		f.Buses = buses
		before := feederText(impl.Feeder{Source: f.Source, Buses: whole})
		for _, kind := range faultKinds() {
			tellFaults(f, kind, 1)
			last := int64(len(parents)) - 1
			impl.FaultCurrents(f, last, kind, 0)
			impl.FaultVoltages(f, last, kind, 0, last/2)
			impl.CommonPath(f, last, last)
		}
		expect(t, "a feeder behind all functions", feederText(impl.Feeder{Source: f.Source, Buses: whole}), before)
	}
}

// Promise 1: lists that are returned are new each time.
func TestFaultListsAreNew(t *testing.T) {
	for _, parents := range [][]int64{{-1}, {-1, 0, 0, 1}, rowParents(16)} {
		f := treeOf(parents)
		before := feederText(f) + tellFaults(f, impl.FaultPair, 1)
		table := faultTable(t, f, impl.FaultPair, 1)
		for i := range table[:cap(table)] {
			table[:cap(table)][i] = 99
		}
		for bus := range int64(len(parents)) {
			common, _ := impl.CommonPath(f, bus, bus)
			for i := range common[:cap(common)] {
				common[:cap(common)][i] = 99
			}
		}
		expect(t, "all behind changed results", feederText(f)+tellFaults(f, impl.FaultPair, 1), before)
	}
}

// checkFaultsFail calls all functions of faults in a feeder that must fail.
func checkFaultsFail(t *testing.T, what string, f impl.Feeder) {
	t.Helper()
	for _, kind := range faultKinds() {
		for _, through := range []complex64{0, 1} {
			table, ok := impl.FaultTable(f, kind, through)
			expectFailure(t, "FaultTable with "+what, len(table) == 0, ok)
			bus, least, ok := impl.WeakestFault(f, kind, through)
			expectFailure(t, "WeakestFault with "+what, bus == 0 && digitsOf(least) == digitsOf(0), ok)
			for bus := range int64(4) {
				currents, ok := impl.FaultCurrents(f, bus, kind, through)
				expectNoPhases(t, "FaultCurrents with "+what, currents, ok)
				voltages, ok := impl.FaultVoltages(f, bus, kind, through, bus/2)
				expectNoPhases(t, "FaultVoltages with "+what, voltages, ok)
			}
		}
	}
	for a := range int64(4) {
		for b := range int64(4) {
			common, ok := impl.CommonPath(f, a, b)
			expectFailure(t, "CommonPath with "+what, len(common) == 0, ok)
		}
	}
}

// Promise 1: feeders that are not valid make functions of faults fail with zero values.
func TestFaultsInWrongFeedersFail(t *testing.T) {
	for what, f := range wrongFeeders() {
		checkFaultsFail(t, what, f)
	}
}

// Promise 1: buses that are not there make functions of faults fail with zero values.
func TestFaultsAtAbsentBusesFail(t *testing.T) {
	for _, parents := range [][]int64{{-1}, {-1, 0, 0, 1}, rowParents(16)} {
		f := treeOf(parents)
		for _, absent := range absentBuses(f) {
			for bus := range int64(len(parents)) {
				what := fmt.Sprint(bus, " and ", absent)
				for _, pair := range [][2]int64{{bus, absent}, {absent, bus}, {absent, absent}} {
					common, ok := impl.CommonPath(f, pair[0], pair[1])
					expectFailure(t, "CommonPath of "+what, len(common) == 0, ok)
					for _, kind := range faultKinds() {
						voltages, ok := impl.FaultVoltages(f, pair[0], kind, 1, pair[1])
						expectNoPhases(t, "FaultVoltages of "+what, voltages, ok)
					}
				}
			}
			for _, kind := range faultKinds() {
				currents, ok := impl.FaultCurrents(f, absent, kind, 1)
				expectNoPhases(t, fmt.Sprint("FaultCurrents at ", absent), currents, ok)
			}
		}
	}
}
