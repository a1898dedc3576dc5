package tests

import (
	"fmt"
	"math"
	"slices"
	"testing"

	"loop.example/g01212/impl"
)

// The limit is that of the document.
func TestRoundLimit(t *testing.T) {
	if impl.MaxRounds != 50 {
		t.Errorf("MaxRounds: got %d", impl.MaxRounds)
	}
}

// Promise 1: flows have phases for each bus, of any numbers, and rounds up to their limit.
func TestIsFlow(t *testing.T) {
	for _, parents := range [][]int64{{-1}, {-1, 0}, {-1, 0, 1, 1, 0}, rowParents(16), starParents(16)} {
		f := treeOf(parents)
		for _, p := range oddPhases() {
			list := repeated(p, len(parents))
			for _, rounds := range []int64{0, 1, 49, 50} {
				for _, rests := range []bool{false, true} {
					flow := impl.Flow{Voltages: list, Currents: list, Rounds: rounds, Rests: rests}
					if !impl.IsFlow(f, flow) {
						t.Errorf("IsFlow of %d buses, %d rounds: want true", len(parents), rounds)
					}
				}
			}
		}
		for what, flow := range otherFlows(len(parents)) {
			if impl.IsFlow(f, flow) {
				t.Errorf("IsFlow of %d buses with %s: want false", len(parents), what)
			}
		}
	}
	for what, f := range wrongFeeders() {
		if impl.IsFlow(f, flowOf(repeated(impl.Phases{}, len(f.Buses)))) {
			t.Errorf("IsFlow of %s: want false", what)
		}
	}
}

// flowChanges change one field of a flow each.
func flowChanges() []func(flow *impl.Flow) {
	changes := []func(flow *impl.Flow){
		func(flow *impl.Flow) { flow.Rounds++ },
		func(flow *impl.Flow) { flow.Rounds += 1 << 32 },
		func(flow *impl.Flow) { flow.Rests = !flow.Rests },
		func(flow *impl.Flow) { flow.Voltages = flow.Voltages[:2] },
		func(flow *impl.Flow) { flow.Currents = flow.Currents[:2] },
		func(flow *impl.Flow) { flow.Voltages = nil },
		func(flow *impl.Flow) { flow.Currents = nil },
		func(flow *impl.Flow) { flow.Voltages, flow.Currents = flow.Currents, flow.Voltages },
	}
	for i := range 3 {
		for place := range 3 {
			for _, x := range []complex64{9, complex(float32(0), 9), complex(notANumber, 1)} {
				changes = append(changes,
					func(flow *impl.Flow) { flow.Voltages[i] = impl.AddPhases(flow.Voltages[i], placed(x, place, 0)) },
					func(flow *impl.Flow) { flow.Currents[i] = impl.AddPhases(flow.Currents[i], placed(x, place, 0)) })
			}
		}
	}
	return changes
}

// someFlow returns a new flow of three buses.
func someFlow() impl.Flow {
	return flowOf([]impl.Phases{{A: 1, B: 2, C: 3}, {A: complex(1, 2), B: 4}, {C: complex(0, -1)}})
}

// Promise 1: one field makes flows differ.
func TestSameFlow(t *testing.T) {
	if !impl.SameFlow(someFlow(), someFlow()) {
		t.Errorf("SameFlow of equal flows: want true")
	}
	for i, change := range flowChanges() {
		a, b := someFlow(), someFlow()
		change(&a)
		if impl.SameFlow(a, b) || impl.SameFlow(b, a) {
			t.Errorf("SameFlow with the change %d: want false", i)
		}
		change(&b)
		if !impl.SameFlow(a, b) {
			t.Errorf("SameFlow with the change %d in both: want true", i)
		}
	}
	empty := impl.Flow{Voltages: []impl.Phases{}, Currents: []impl.Phases{}}
	if !impl.SameFlow(impl.Flow{}, empty) || !impl.SameFlow(empty, impl.Flow{}) {
		t.Errorf("SameFlow of empty lists: want true")
	}
	for _, count := range []int{17, 1000} {
		a, b := flowOf(repeated(impl.Phases{A: 1}, count)), flowOf(repeated(impl.Phases{A: 1}, count))
		a.Rounds, b.Rounds = math.MinInt64, math.MinInt64
		if !impl.SameFlow(a, b) {
			t.Errorf("SameFlow of %d phases: want true", count)
		}
	}
}

// Promise 1: numbers of flows are the same by their bits.
func TestSameNumbersOfFlows(t *testing.T) {
	for i, p := range oddPhases() {
		for j, q := range oddPhases() {
			want := i == j || phasesText(p) == phasesText(q)
			a, b := impl.Flow{Voltages: []impl.Phases{{}, p}}, impl.Flow{Voltages: []impl.Phases{{}, q}}
			if got := impl.SameFlow(a, b); got != want {
				t.Errorf("SameFlow with the voltages %s, %s: got %v", phasesText(p), phasesText(q), got)
			}
			a, b = impl.Flow{Currents: a.Voltages}, impl.Flow{Currents: b.Voltages}
			if got := impl.SameFlow(a, b); got != want {
				t.Errorf("SameFlow with the currents %s, %s: got %v", phasesText(p), phasesText(q), got)
			}
		}
	}
	odd := math.Float32frombits(0xff812345)
	a := impl.Flow{Currents: []impl.Phases{{B: complex(notANumber, 1)}}}
	b := impl.Flow{Currents: []impl.Phases{{B: complex(odd, 1)}}}
	if !impl.SameFlow(a, b) {
		t.Errorf("SameFlow: not-a-numbers with other bits are not the same")
	}
}

// Promise 3: a flow whose phases go around has all else as it was, also where it is one of no feeder.
func TestNextFlow(t *testing.T) {
	for _, count := range []int{0, 1, 2, 19, 16, 17, 300} {
		flow := impl.Flow{Rounds: int64(count) - 7, Rests: count%2 == 0}
		want := flow
		for i := range count {
			p := oddPhases()[i%len(oddPhases())]
			q := impl.Phases{A: complex(float32(i), 1), B: 2, C: 3}
			flow.Voltages, flow.Currents = append(flow.Voltages, p), append(flow.Currents, q)
			want.Voltages = append(want.Voltages, impl.Phases{A: p.C, B: p.A, C: p.B})
			want.Currents = append(want.Currents, impl.Phases{A: q.C, B: q.A, C: q.B})
		}
		next := impl.NextFlow(flow)
		expectFlow(t, fmt.Sprint("NextFlow of ", count), next, true, want)
		expectFlow(t, "NextFlow three times", impl.NextFlow(impl.NextFlow(next)), true, flow)
	}
	uneven := impl.Flow{Voltages: []impl.Phases{{A: 1, B: 2, C: 3}}, Rounds: math.MaxInt64}
	want := impl.Flow{Voltages: []impl.Phases{{A: 3, B: 1, C: 2}}, Rounds: math.MaxInt64}
	expectFlow(t, "NextFlow of one list", impl.NextFlow(uneven), true, want)
	want.Voltages, want.Currents = nil, slices.Clone(want.Voltages)
	uneven.Voltages, uneven.Currents = nil, uneven.Voltages
	expectFlow(t, "NextFlow of the other list", impl.NextFlow(uneven), true, want)
}
