package tests

import (
	"fmt"
	"math"
	"testing"

	"loop.example/g01212/impl"
)

// componentsText tells the digits of Zero, Plus and Minus.
func componentsText(parts impl.Parts) string {
	return partsOf(parts.Zero) + " " + partsOf(parts.Plus) + " " + partsOf(parts.Minus)
}

// expectComponents reports a failure, and parts that are not the same as they must be.
func expectComponents(t *testing.T, what string, got impl.Parts, ok bool, want impl.Parts) {
	t.Helper()
	if !ok {
		t.Errorf("%s: fails", what)
	}
	expect(t, what, componentsText(got), componentsText(want))
}

// expectNoComponents reports parts that are not the zero value of a failure.
func expectNoComponents(t *testing.T, what string, got impl.Parts, ok bool) {
	t.Helper()
	expectFailure(t, what, componentsText(got) == componentsText(impl.Parts{}), ok)
}

// expectNoPhases reports phases that are not the zero value of a failure.
func expectNoPhases(t *testing.T, what string, got impl.Phases, ok bool) {
	t.Helper()
	expectFailure(t, what, phasesText(got) == phasesText(impl.Phases{}), ok)
}

// componentsFrom returns the parts with the numbers of phases.
func componentsFrom(p impl.Phases) impl.Parts {
	return impl.Parts{Zero: p.A, Plus: p.B, Minus: p.C}
}

// faultKinds are the four kinds of faults.
func faultKinds() []int64 {
	return []int64{impl.FaultThree, impl.FaultGround, impl.FaultPair, impl.FaultBoth}
}

// wrongKinds are numbers that are no kinds of faults.
func wrongKinds() []int64 {
	return []int64{-1, -2, 4, 5, 256, 1 << 32, 1<<32 + 1, math.MinInt64, math.MaxInt64}
}

// arguments are those of FaultParts.
type arguments struct {
	source, zero, plus complex64
	kind               int64
	through            complex64
}

// faultText tells the arguments of FaultParts.
func faultText(x arguments) string {
	return fmt.Sprint("FaultParts ", x.kind, " of ", partsOf(x.source), " behind ", partsOf(x.zero), " and ", partsOf(x.plus), " through ", partsOf(x.through))
}

// parts returns FaultParts, which must not fail.
func (x arguments) parts(t *testing.T) impl.Parts {
	t.Helper()
	parts, ok := impl.FaultParts(x.source, x.zero, x.plus, x.kind, x.through)
	if !ok {
		t.Fatalf("%s: fails", faultText(x))
	}
	return parts
}

// expectNoFault reports a fault that does not fail.
func expectNoFault(t *testing.T, x arguments) {
	t.Helper()
	parts, ok := impl.FaultParts(x.source, x.zero, x.plus, x.kind, x.through)
	expectNoComponents(t, faultText(x), parts, ok)
}

// place is a fault at a bus.
type place struct {
	bus, kind int64
	through   complex64
}

// currents returns FaultCurrents, which must not fail.
func (p place) currents(t *testing.T, f impl.Feeder) impl.Phases {
	t.Helper()
	currents, ok := impl.FaultCurrents(f, p.bus, p.kind, p.through)
	if !ok {
		t.Fatalf("FaultCurrents of %v: fails", p)
	}
	return currents
}

// voltages returns FaultVoltages, which must not fail.
func (p place) voltages(t *testing.T, f impl.Feeder, at int64) impl.Phases {
	t.Helper()
	voltages, ok := impl.FaultVoltages(f, p.bus, p.kind, p.through, at)
	if !ok {
		t.Fatalf("FaultVoltages of %v at %d: fails", p, at)
	}
	return voltages
}

// faultTable returns FaultTable, which must not fail.
func faultTable(t *testing.T, f impl.Feeder, kind int64, through complex64) []float32 {
	t.Helper()
	table, ok := impl.FaultTable(f, kind, through)
	if !ok {
		t.Fatalf("FaultTable of the kind %d: fails", kind)
	}
	return table
}

// expectWeakest reports a failure, and another bus or number than those of the weakest fault.
func expectWeakest(t *testing.T, what string, f impl.Feeder, kind int64, through complex64, wantBus int64, want float32) {
	t.Helper()
	bus, least, ok := impl.WeakestFault(f, kind, through)
	expect(t, "WeakestFault "+what, fmt.Sprint(bus, " ", digitsOf(least), ok), fmt.Sprint(wantBus, " ", digitsOf(want), true))
}

// parted returns the source and the impedances of the path to a bus, for parts.
func parted(f impl.Feeder, path []int64) (source, zero, plus complex64) {
	var own, shared complex64
	for _, at := range path {
		own += f.Buses[at].Own
		shared += f.Buses[at].Shared
	}
	zero, plus = impl.SequenceOf(own, shared)
	return impl.PartsOf(f.Source).Plus, zero, plus
}

// commonOf returns the buses that two paths begin with.
func commonOf(parents []int64, a, b int64) []int64 {
	path, other := pathOf(parents, a), pathOf(parents, b)
	count := 0
	for count < min(len(path), len(other)) && path[count] == other[count] {
		count++
	}
	return path[:count]
}

// without returns a feeder whose buses have neither loads nor customers.
func without(f impl.Feeder) impl.Feeder {
	bare := impl.Feeder{Source: f.Source}
	for _, b := range f.Buses {
		bare.Buses = append(bare.Buses, impl.Bus{Parent: b.Parent, Own: b.Own, Shared: b.Shared})
	}
	return bare
}
