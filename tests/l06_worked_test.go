package tests

import (
	"fmt"
	"testing"

	"loop.example/g01212/impl"
)

// failsNext reports whether the next word tells a failure, which it reads then.
func (w *words) failsNext() bool {
	if len(w.left) == 0 || w.left[0] != "fails" {
		return false
	}
	w.left = w.left[1:]
	return true
}

// Promise 7: parts and phases, and their measures, are told to the last bit.
func TestWorkedParts(t *testing.T) {
	for i, row := range rowsOf(partRows) {
		what := fmt.Sprint("of the row ", i)
		w := &words{t: t, left: row}
		p := w.phases()
		expectComponents(t, "PartsOf "+what, impl.PartsOf(p), true, componentsFrom(w.phases()))
		expectNumber(t, "MinusShareOf "+what, impl.MinusShareOf(p), w.number())
		expectComplex(t, "GroundCurrentOf "+what, impl.GroundCurrentOf(p), w.complex())
		expectNumber(t, "GreatestOf "+what, impl.GreatestOf(p), w.number())
		expectPhases(t, "PhasesOf "+what, impl.PhasesOf(componentsFrom(p)), w.phases())
		w.end(what)
	}
}

// Promise 7: impedances for parts are told to the last bit.
func TestWorkedSequences(t *testing.T) {
	for i, row := range rowsOf(sequenceRows) {
		what := fmt.Sprint("SequenceOf the row ", i)
		w := &words{t: t, left: row}
		own := w.complex()
		zero, plus := impl.SequenceOf(own, w.complex())
		expectComplex(t, what, zero, w.complex())
		expectComplex(t, what, plus, w.complex())
		w.end(what)
	}
}

// Promise 7: the parts of faults are told to the last bit, and whether they are finite.
func TestWorkedFaults(t *testing.T) {
	for _, row := range rowsOf(faultRows) {
		w := &words{t: t, left: row}
		x := arguments{kind: w.integer(), source: w.complex()}
		x.zero = w.complex()
		x.plus = w.complex()
		x.through = w.complex()
		if w.failsNext() {
			expectNoFault(t, x)
		} else {
			expectComponents(t, faultText(x), x.parts(t), true, componentsFrom(w.phases()))
		}
		w.end(faultText(x))
	}
}

// otherBuses are the buses at which the rows tell the voltages of a fault.
func otherBuses(bus int64, count int) []int64 {
	if count > 8 {
		return []int64{(7*bus + 3) % int64(count)}
	}
	return []int64{bus, (3*bus + 1) % int64(count)}
}

// Promise 7: currents, voltages and tables of faults in feeders are told to the last bit.
func TestWorkedNetworks(t *testing.T) {
	for i, row := range rowsOf(networkRows) {
		what := fmt.Sprint("of the row ", i)
		w := &words{t: t, left: row}
		fault := place{kind: w.integer(), through: w.complex()}
		f := w.feeder()
		table := w.numbers(len(f.Buses))
		expect(t, "FaultTable "+what, tellNumbers(faultTable(t, f, fault.kind, fault.through)), tellNumbers(table))
		weakest := w.integer()
		expectWeakest(t, what, f, fault.kind, fault.through, weakest, w.number())
		for bus := range f.Buses {
			fault.bus = int64(bus)
			if w.failsNext() {
				currents, ok := impl.FaultCurrents(f, fault.bus, fault.kind, fault.through)
				expectNoPhases(t, "FaultCurrents "+what, currents, ok)
				continue
			}
			expectPhases(t, fmt.Sprint("FaultCurrents ", bus, what), fault.currents(t, f), w.phases())
			for _, at := range otherBuses(fault.bus, len(f.Buses)) {
				expectPhases(t, fmt.Sprint("FaultVoltages ", bus, at, what), fault.voltages(t, f, at), w.phases())
			}
		}
		w.end(what)
	}
}
