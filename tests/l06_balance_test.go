package tests

import (
	"fmt"
	"testing"

	"loop.example/g01212/impl"
)

// greatPowers returns how great the powers of a flow can be: the sum, over all
// buses, of the greatest voltage times the greatest current.
func greatPowers(f impl.Feeder, flow impl.Flow) float32 {
	var sum float32
	for bus, b := range f.Buses {
		load := impl.LoadCurrentOf(b, flow.Voltages[bus])
		sum += impl.GreatestOf(flow.Voltages[bus]) * (impl.GreatestOf(flow.Currents[bus]) + impl.GreatestOf(load))
	}
	return sum
}

// checkBalance reports a flow of which more is left than next to nothing of how great its powers can be.
func checkBalance(t *testing.T, what string, f impl.Feeder, flow impl.Flow) {
	t.Helper()
	left, great := ofFlow(t, f, flow, impl.PowerBalanceOf), greatPowers(f, flow)
	if !(impl.LongOf(left) <= 3e-6*great) {
		t.Errorf("PowerBalanceOf %s: got %v of %v", what, left, great)
	}
}

// canceling returns a gentle feeder whose loads are currents or impedances that
// take from one bus about what they give to another one.
func canceling(parents []int64) impl.Feeder {
	f := gentle(parents)
	for i := range f.Buses {
		load := impl.Phases{A: complex(7, 1), B: complex(-3, 5), C: complex(2, -6)}
		f.Buses[i].Kind, f.Buses[i].Load = impl.LoadCurrent, impl.ScalePhases(load, float32(1-i%2*2))
	}
	return f
}

// Promise 5: over how great voltages and currents are, next to nothing is left of
// a flow that rests, also where its loads cancel each other.
func TestBalancesOverGreatest(t *testing.T) {
	for _, parents := range someParents() {
		for what, f := range map[string]impl.Feeder{"gentle": gentle(parents), "canceling": canceling(parents)} {
			flow := solved(t, f, 50, 0.0001)
			if !flow.Rests {
				t.Errorf("SolveFeeder of %v: does not rest", parents)
			}
			checkBalance(t, fmt.Sprint(what, parents), f, flow)
		}
	}
}

// Promise 5: a current that is off is seen in what is left, over how great voltages and currents are.
func TestUnbalancedOverGreatest(t *testing.T) {
	for _, parents := range faultTrees() {
		f := gentle(parents)
		flow := solved(t, f, 50, 0.0001)
		for at := range 3 {
			currents := append([]impl.Phases{}, flow.Currents...)
			currents[0] = impl.AddPhases(currents[0], placed(complex(impl.GreatestOf(currents[0]), 0), at, 0))
			off := withCurrents(flow, currents)
			left, great := ofFlow(t, f, off, impl.PowerBalanceOf), greatPowers(f, off)
			if !(impl.LongOf(left) >= 0.01*great) {
				t.Errorf("PowerBalanceOf %v: got %v of %v", parents, left, great)
			}
		}
	}
}
