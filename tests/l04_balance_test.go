package tests

import (
	"fmt"
	"testing"

	"loop.example/g01212/impl"
)

// nearlyBalanced reports whether next to nothing of the power of the source is left.
func nearlyBalanced(t *testing.T, f impl.Feeder, flow impl.Flow) bool {
	t.Helper()
	left, source := ofFlow(t, f, flow, impl.PowerBalanceOf), ofFlow(t, f, flow, impl.SourcePowerOf)
	return impl.LongOf(left) <= 3e-6*impl.LongOf(source)
}

// Promise 5: what a source gives is what loads take and lines lose, nearly, for flows that rest.
func TestFlowsThatRestAreBalanced(t *testing.T) {
	for _, parents := range someParents() {
		f := gentle(parents)
		flow := solved(t, f, 50, 0.0001)
		if !flow.Rests {
			t.Errorf("SolveFeeder of %v: does not rest", parents)
		}
		if !nearlyBalanced(t, f, flow) {
			t.Errorf("PowerBalanceOf %v: got %v of %v", parents, ofFlow(t, f, flow, impl.PowerBalanceOf), ofFlow(t, f, flow, impl.SourcePowerOf))
		}
		if mismatch := ofFlow(t, f, flow, impl.MismatchOf); mismatch > 1e-3 {
			t.Errorf("MismatchOf %v: got %v", parents, mismatch)
		}
	}
}

// Promise 5: powers add up to the last bit where all numbers are small integers.
func TestSmallIntegersAreBalanced(t *testing.T) {
	for _, parents := range append(parentsUpTo(5), starParents(6), rowParents(6)) {
		f := currentFeeder(parents)
		flow := solved(t, f, 2, 0)
		if !flow.Rests {
			t.Errorf("SolveFeeder of %v: does not rest", parents)
		}
		expectComplex(t, fmt.Sprint("PowerBalanceOf ", parents), ofFlow(t, f, flow, impl.PowerBalanceOf), 0)
		expectNumber(t, fmt.Sprint("MismatchOf ", parents), ofFlow(t, f, flow, impl.MismatchOf), 0)
	}
}

// Promise 5: a flow whose currents are off is off by the power of what was added.
func TestCurrentsThatAreOff(t *testing.T) {
	for _, parents := range append(parentsUpTo(5), starParents(6), rowParents(6)) {
		f := currentFeeder(parents)
		flow := solved(t, f, 2, 0)
		for bus := range parents {
			for place := range 3 {
				currents := append([]impl.Phases{}, flow.Currents...)
				more := placed(complex(3, -4), place, 0)
				currents[bus] = impl.AddPhases(currents[bus], more)
				off := withCurrents(flow, currents)
				want := impl.PowerBetween(f.Source, more)
				if bus > 0 {
					want = complex64(wideLoss(f.Buses[bus], flow.Currents[bus]) - wideLoss(f.Buses[bus], currents[bus]))
				}
				expectComplex(t, "PowerBalanceOf a current that is off", ofFlow(t, f, off, impl.PowerBalanceOf), want)
				expectNumber(t, "MismatchOf a current that is off", ofFlow(t, f, off, impl.MismatchOf), 5)
			}
		}
	}
}

// Promise 5: the balance is the source's power less that of loads, less that of losses, in this order.
func TestOrderOfBalances(t *testing.T) {
	for _, f := range oddFeeders() {
		for _, flow := range oddFlows(len(f.Buses)) {
			loads, isLoads := impl.TotalPower(ofFlow(t, f, flow, impl.LoadPowersOf))
			losses, isLosses := impl.TotalPower(ofFlow(t, f, flow, impl.LossesOf))
			source := ofFlow(t, f, flow, impl.SourcePowerOf)
			if !isLoads || !isLosses {
				t.Errorf("TotalPower: fails")
			}
			expectComplex(t, "PowerBalanceOf", ofFlow(t, f, flow, impl.PowerBalanceOf), source-loads-losses)
			expectNumber(t, "LossShareOf", ofFlow(t, f, flow, impl.LossShareOf), real(losses)/real(source))
		}
	}
	f := impl.Feeder{Buses: []impl.Bus{{Parent: -1, Kind: impl.LoadCurrent, Load: impl.Phases{A: greatOdd}}, {Parent: 0, Own: 1}}}
	flow := impl.Flow{Voltages: []impl.Phases{{A: 1}, {A: 1}}, Currents: []impl.Phases{{A: greatOdd}, {A: 1}}}
	expectComplex(t, "loads first", ofFlow(t, f, flow, impl.PowerBalanceOf), -1)
	flow.Currents[0].A = 1
	f.Buses[1].Own = -greatOdd
	f.Buses[0].Load.A = greatOdd + 2
	expectComplex(t, "loads before losses", ofFlow(t, f, flow, impl.PowerBalanceOf), 0)
}

// shareFlow returns a feeder and a flow whose source gives a power and whose line loses another one.
func shareFlow(given, lost float32) (impl.Feeder, impl.Flow) {
	f := impl.Feeder{Buses: []impl.Bus{{Parent: -1}, {Parent: 0, Own: complex(lost, 5)}}}
	return f, impl.Flow{Voltages: []impl.Phases{{B: complex(given, 3)}, {}}, Currents: []impl.Phases{{B: 1}, {B: 1}}}
}

// Promise 5: the share of the losses is that of the real parts, also where the source gives nothing.
func TestLossShareOf(t *testing.T) {
	cases := []struct{ given, lost, want float32 }{
		{16, 4, 0.25}, {-16, 4, -0.25}, {3, 1, 1.0 / 3}, {10, 10, 1}, {1, 0, 0}, {-1, 0, negativeZero},
		{0, 4, positiveInfinity}, {0, -4, negativeInfinity}, {negativeZero, 4, positiveInfinity}, {0, 0, notANumber}, {0, negativeZero, notANumber},
		{leastSubnormal, 1, positiveInfinity}, {greatestNumber, leastSubnormal, 0},
	}
	for _, c := range cases {
		f, flow := shareFlow(c.given, c.lost)
		expectNumber(t, fmt.Sprint("LossShareOf ", c), ofFlow(t, f, flow, impl.LossShareOf), c.want)
	}
	for _, p := range oddPhases() {
		root := impl.Flow{Voltages: []impl.Phases{p}, Currents: []impl.Phases{{A: 1, B: 1, C: 1}}}
		source := ofFlow(t, treeOf([]int64{-1}), root, impl.SourcePowerOf)
		expectNumber(t, "LossShareOf a root", ofFlow(t, treeOf([]int64{-1}), root, impl.LossShareOf), 0/real(source))
	}
}

// Promise 5: at the limit of buses, all of them count.
func TestBalancesAtTheLimit(t *testing.T) {
	for _, parents := range [][]int64{rowParents(16), starParents(16)} {
		f := treeOf(parents)
		for i := range f.Buses {
			f.Buses[i].Kind, f.Buses[i].Load = impl.LoadCurrent, impl.Phases{A: 1}
			if i > 0 {
				f.Buses[i].Own, f.Buses[i].Shared = 1, 0
			}
		}
		flow := impl.Flow{Voltages: repeated(impl.Phases{A: 2}, 16), Currents: repeated(impl.Phases{A: 3}, 16)}
		flow.Currents[0].A = 100
		expectComplex(t, "SourcePowerOf", ofFlow(t, f, flow, impl.SourcePowerOf), 200)
		expectComplex(t, "PowerBalanceOf", ofFlow(t, f, flow, impl.PowerBalanceOf), 200-16*2-15*9)
		expectNumber(t, "LossShareOf", ofFlow(t, f, flow, impl.LossShareOf), float32(15*9)/200)
	}
}
