package tests

import (
	"fmt"
	"strings"
	"testing"

	"loop.example/g01212/impl"
)

// complexListText tells the digits of complex numbers.
func complexListText(list []complex64) string {
	var words []string
	for _, x := range list {
		words = append(words, partsOf(x))
	}
	return strings.Join(words, "; ")
}

// setText tells a set of numbers.
func setText(set []int64) string {
	if len(set) == 0 {
		return "none"
	}
	return strings.Trim(strings.ReplaceAll(fmt.Sprint(set), " ", ","), "[]")
}

// expectComplexList reports complex numbers that are not the same as they must be.
func expectComplexList(t *testing.T, what string, got, want []complex64) {
	t.Helper()
	expect(t, what, complexListText(got), complexListText(want))
}

// ofFlow returns what a function makes of a flow, for which it must not fail.
func ofFlow[T any](t *testing.T, f impl.Feeder, flow impl.Flow, of func(f impl.Feeder, flow impl.Flow) (T, bool)) T {
	t.Helper()
	result, ok := of(f, flow)
	if !ok {
		t.Fatalf("a function of a flow of %d buses fails", len(f.Buses))
	}
	return result
}

// dropShareAt is DropShareOf a bus.
func dropShareAt(bus int64) func(f impl.Feeder, flow impl.Flow) (float32, bool) {
	return func(f impl.Feeder, flow impl.Flow) (float32, bool) { return impl.DropShareOf(f, flow, bus) }
}

// overLoads is OverLoads with a bound.
func overLoads(most float32) func(f impl.Feeder, flow impl.Flow) ([]int64, bool) {
	return func(f impl.Feeder, flow impl.Flow) ([]int64, bool) { return impl.OverLoads(f, flow, most) }
}

// underVoltages is UnderVoltages with a bound.
func underVoltages(least float32) func(f impl.Feeder, flow impl.Flow) ([]int64, bool) {
	return func(f impl.Feeder, flow impl.Flow) ([]int64, bool) { return impl.UnderVoltages(f, flow, least) }
}

// withCurrents returns a flow with other currents.
func withCurrents(flow impl.Flow, currents []impl.Phases) impl.Flow {
	flow.Currents = currents
	return flow
}

// currentFeeder returns a feeder all of whose loads are currents, the flow of
// which is exact for small trees.
func currentFeeder(parents []int64) impl.Feeder {
	f := treeOf(parents)
	for i := range f.Buses {
		f.Buses[i].Kind = impl.LoadCurrent
	}
	return f
}

// oddFlows are flows of a feeder with so many buses, with numbers at the edges of the format.
func oddFlows(count int) []impl.Flow {
	var flows []impl.Flow
	list := oddPhases()
	for i, p := range list {
		q := list[(5*i+3)%len(list)]
		plain := repeated(impl.Phases{A: 3, B: complex(-1, 2), C: complex(0, -2)}, count)
		mixed := smallLoads(count)
		mixed[i%count], mixed[(i+1)%count] = p, q
		flows = append(flows,
			impl.Flow{Voltages: repeated(p, count), Currents: plain},
			impl.Flow{Voltages: plain, Currents: repeated(p, count), Rests: true},
			impl.Flow{Voltages: mixed, Currents: repeated(q, count), Rounds: 50},
			impl.Flow{Voltages: smallLoads(count), Currents: mixed, Rounds: 1})
	}
	return flows
}
