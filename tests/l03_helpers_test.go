package tests

import (
	"fmt"
	"math"
	"slices"
	"strings"
	"testing"

	"loop.example/g01212/impl"
)

// phasesListText tells the digits of all phases of a list.
func phasesListText(list []impl.Phases) string {
	var lines []string
	for _, p := range list {
		lines = append(lines, phasesText(p))
	}
	return strings.Join(lines, "; ")
}

// flowText tells all fields of a flow.
func flowText(flow impl.Flow) string {
	return fmt.Sprint(flow.Rounds, " ", flow.Rests, " ", phasesListText(flow.Voltages), " | ", phasesListText(flow.Currents))
}

// expectPhasesList reports a failure, and a list of phases that is not the same as it must be.
func expectPhasesList(t *testing.T, what string, got []impl.Phases, ok bool, want []impl.Phases) {
	t.Helper()
	if !ok {
		t.Errorf("%s: fails", what)
	}
	expect(t, what, phasesListText(got), phasesListText(want))
}

// expectFlow reports a failure, and a flow that is not the same as it must be.
func expectFlow(t *testing.T, what string, got impl.Flow, ok bool, want impl.Flow) {
	t.Helper()
	if !ok {
		t.Errorf("%s: fails", what)
	}
	expect(t, what, flowText(got), flowText(want))
}

// expectNoFlow reports a flow that is not the zero value of a failure.
func expectNoFlow(t *testing.T, what string, got impl.Flow, ok bool) {
	t.Helper()
	expectFailure(t, what, flowText(got) == flowText(impl.Flow{}), ok)
}

// solved returns the flow of SolveFeeder, which must not fail.
func solved(t *testing.T, f impl.Feeder, rounds int64, near float32) impl.Flow {
	t.Helper()
	flow, ok := impl.SolveFeeder(f, rounds, near)
	if !ok {
		t.Fatalf("SolveFeeder of %d rounds: fails", rounds)
	}
	return flow
}

// run returns the flow of RunSweeps, which must not fail.
func run(t *testing.T, f impl.Feeder, voltages []impl.Phases, rounds int64) impl.Flow {
	t.Helper()
	flow, ok := impl.RunSweeps(f, voltages, rounds)
	if !ok {
		t.Fatalf("RunSweeps of %d rounds: fails", rounds)
	}
	return flow
}

// change returns ChangeOf two lists, which must not fail.
func change(t *testing.T, a, b []impl.Phases) float32 {
	t.Helper()
	number, ok := impl.ChangeOf(a, b)
	if !ok {
		t.Fatalf("ChangeOf: fails")
	}
	return number
}

// flowOf returns a flow with the given voltages, whose currents differ from them.
func flowOf(voltages []impl.Phases) impl.Flow {
	flow := impl.Flow{Voltages: voltages, Rounds: 7, Rests: true}
	for i := range voltages {
		flow.Currents = append(flow.Currents, impl.Phases{A: complex(float32(i), 3), B: complex(negativeZero, 1), C: -5})
	}
	return flow
}

// gentle returns a feeder whose lines take little from its voltages, so that
// its flow rests.
func gentle(parents []int64) impl.Feeder {
	f := treeOf(parents)
	for i := range f.Buses {
		f.Buses[i].Own = impl.ScaleComplex(f.Buses[i].Own, 0.003)
		f.Buses[i].Shared = impl.ScaleComplex(f.Buses[i].Shared, 0.001)
	}
	return f
}

// halving returns a feeder of one line, in the phase A of which each round halves
// the change of the voltage: 4, 2, 1 and so on for a share of 0.5. With a share
// of 1 it goes from 8 to 0 and back for ever, and beyond it comes to infinities.
func halving(share float32) impl.Feeder {
	return impl.Feeder{Source: impl.Phases{A: 8}, Buses: []impl.Bus{
		{Parent: -1},
		{Parent: 0, Own: complex(share, 0), Kind: impl.LoadImpedance, Load: impl.Phases{A: 1}},
	}}
}

// oddFeeders are feeders with numbers at the edges of the format.
func oddFeeders() []impl.Feeder {
	var list []impl.Feeder
	for i, p := range oddPhases() {
		f := gentle([]int64{-1, 0, 1, 1, 0})
		f.Buses[1].Load, f.Buses[4].Load = p, impl.NextPhases(p)
		list = append(list, f)
		f = gentle([]int64{-1, 0, 1, 1, 0})
		f.Source = p
		list = append(list, f)
		f = gentle([]int64{-1, 0, 1, 1, 0})
		f.Buses[i%4+1].Own, f.Buses[(i+1)%4+1].Shared = p.A, p.B
		list = append(list, f)
	}
	return list
}

// wrongRounds are numbers of rounds beyond the limits from least to 50.
func wrongRounds(least int64) []int64 {
	return []int64{least - 1, -1, -2, 51, 52, 1 << 32, math.MinInt64, math.MaxInt64}
}

// wrongLists are lists that do not have phases for each of so many buses.
func wrongLists(count int) [][]impl.Phases {
	var lists [][]impl.Phases
	for _, length := range []int{0, count - 1, count + 1, 2 * count, 16, 17, 256, 257} {
		if length != count {
			lists = append(lists, repeated(impl.Phases{A: 1}, length))
		}
	}
	return append(lists, nil)
}

// otherFlows are flows that are none of a feeder with so many buses.
func otherFlows(count int) map[string]impl.Flow {
	list := repeated(impl.Phases{A: 3, B: 2, C: 1}, count)
	flows := map[string]impl.Flow{"zeros": {}}
	for _, wrong := range wrongLists(count) {
		flows[fmt.Sprint(len(wrong), " voltages")] = impl.Flow{Voltages: wrong, Currents: list}
		flows[fmt.Sprint(len(wrong), " currents")] = impl.Flow{Voltages: list, Currents: wrong}
		flows[fmt.Sprint(len(wrong), " of both")] = impl.Flow{Voltages: wrong, Currents: slices.Clone(wrong)}
	}
	for _, rounds := range wrongRounds(0) {
		flows[fmt.Sprint(rounds, " rounds")] = impl.Flow{Voltages: list, Currents: list, Rounds: rounds, Rests: true}
	}
	return flows
}
