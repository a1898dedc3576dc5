package tests

import (
	"fmt"
	"testing"

	"loop.example/g01212/impl"
)

// loadFlow returns a feeder whose buses take currents in one phase, and a flow
// with currents in it.
func loadFlow(parents []int64, loads, currents []float32, place, part int) (impl.Feeder, impl.Flow) {
	f := currentFeeder(parents)
	for i, p := range placedAll(loads, place, part) {
		f.Buses[i].Load = p
	}
	return f, impl.Flow{Voltages: smallLoads(len(parents)), Currents: placedAll(currents, place, part)}
}

// checkMismatch compares the mismatch of currents in each phase and in both parts.
func checkMismatch(t *testing.T, parents []int64, loads, currents []float32, want float32) {
	t.Helper()
	for place := range 3 {
		for part := range 2 {
			f, flow := loadFlow(parents, loads, currents, place, part)
			what := fmt.Sprint("MismatchOf ", parents, loads, currents, place, part)
			expectNumber(t, what, ofFlow(t, f, flow, impl.MismatchOf), want)
		}
	}
}

// Promise 5: the mismatch is the greatest one of all buses, of its current less its load less its children.
func TestMismatchOf(t *testing.T) {
	checkMismatch(t, []int64{-1}, []float32{2}, []float32{2}, 0)
	checkMismatch(t, []int64{-1}, []float32{2}, []float32{7}, 5)
	checkMismatch(t, []int64{-1}, []float32{7}, []float32{2}, 5)
	checkMismatch(t, rowParents(2), []float32{0, 2}, []float32{2, 2}, 0)
	checkMismatch(t, rowParents(2), []float32{0, 2}, []float32{3, 2}, 1)
	checkMismatch(t, rowParents(2), []float32{1, 2}, []float32{3, 7}, 5)
	checkMismatch(t, rowParents(3), []float32{1, 2, 4}, []float32{7, 6, 4}, 0)
	checkMismatch(t, rowParents(3), []float32{1, 2, 4}, []float32{7, 5, 4}, 1)
	checkMismatch(t, starParents(4), []float32{1, 2, 4, 8}, []float32{15, 2, 4, 8}, 0)
	checkMismatch(t, starParents(4), []float32{1, 2, 4, 8}, []float32{15, 2, 4, 11}, 3)
	checkMismatch(t, []int64{-1, 0, 0, 1, 1}, []float32{1, 2, 4, 8, 16}, []float32{31, 26, 4, 8, 16}, 0)
	checkMismatch(t, []int64{-1, 0, 0, 1, 1}, []float32{1, 2, 4, 8, 16}, []float32{31, 26, 4, 8, 18}, 2)
}

// Promise 5: loads are taken away before children, and children in ascending order, each time rounded.
func TestOrderOfMismatches(t *testing.T) {
	checkMismatch(t, rowParents(2), []float32{greatOdd, -greatOdd}, []float32{-1, -greatOdd}, 0)
	checkMismatch(t, rowParents(2), []float32{1, greatOdd}, []float32{greatOdd + 2, greatOdd}, 0)
	checkMismatch(t, starParents(3), []float32{0, greatOdd, -greatOdd}, []float32{-1, greatOdd, -greatOdd}, 0)
	checkMismatch(t, starParents(3), []float32{0, -greatOdd, greatOdd}, []float32{1, -greatOdd, greatOdd}, 0)
	checkMismatch(t, starParents(3), []float32{0, greatOdd, -greatOdd}, []float32{1, greatOdd, -greatOdd}, 1)
	checkMismatch(t, starParents(4), []float32{0, greatOdd, 1, -greatOdd}, []float32{0, greatOdd, 1, -greatOdd}, 0)
}

// Promise 5: not-a-numbers are greater than nothing, and infinities than all others.
func TestMismatchOfOddCurrents(t *testing.T) {
	for _, x := range []float32{positiveInfinity, negativeInfinity} {
		checkMismatch(t, []int64{-1}, []float32{2}, []float32{x}, positiveInfinity)
		checkMismatch(t, []int64{-1}, []float32{x}, []float32{x}, 0)
		checkMismatch(t, rowParents(3), []float32{0, 0, 1}, []float32{9, 4, x}, positiveInfinity)
	}
	checkMismatch(t, []int64{-1}, []float32{2}, []float32{notANumber}, 0)
	checkMismatch(t, []int64{-1}, []float32{notANumber}, []float32{2}, 0)
	checkMismatch(t, rowParents(3), []float32{0, 0, 0}, []float32{notANumber, 4, 1}, 3)
	checkMismatch(t, rowParents(3), []float32{0, 0, 0}, []float32{6, 4, notANumber}, 2)
	checkMismatch(t, rowParents(3), []float32{0, 0, 0}, []float32{notANumber, notANumber, notANumber}, 0)
	checkMismatch(t, rowParents(2), []float32{greatestNumber, 0}, []float32{-greatestNumber, 0}, positiveInfinity)
	checkMismatch(t, rowParents(2), []float32{negativeZero, 0}, []float32{negativeZero, negativeZero}, 0)
	checkMismatch(t, rowParents(2), []float32{0, leastSubnormal}, []float32{0, 0}, leastSubnormal)
}

// Promise 5: a round has the currents of the voltages before it, so its mismatch is told by the loads behind it.
func TestMismatchOfRounds(t *testing.T) {
	for _, share := range []float32{0.5, 0.75, 1, -0.5} {
		f := halving(share)
		for rounds := int64(1); rounds < 5; rounds++ {
			flow := run(t, f, repeated(f.Source, 2), rounds)
			want := impl.LongOf(flow.Currents[1].A - flow.Voltages[1].A)
			expectNumber(t, "MismatchOf a round", ofFlow(t, f, flow, impl.MismatchOf), want)
			currents, ok := impl.SumBack(f, []impl.Phases{{}, {A: flow.Voltages[1].A}})
			if !ok {
				t.Errorf("SumBack: fails")
			}
			expectNumber(t, "MismatchOf its own currents", ofFlow(t, f, withCurrents(flow, currents), impl.MismatchOf), 0)
		}
	}
}

// Promises 3 and 5: the mismatch is what LoadCurrentOf and the children leave, for odd numbers too.
func TestMismatchOfOddFlows(t *testing.T) {
	for _, f := range oddFeeders() {
		for _, flow := range oddFlows(len(f.Buses)) {
			var want float32
			for i, b := range f.Buses {
				left := impl.LessPhases(flow.Currents[i], impl.LoadCurrentOf(b, flow.Voltages[i]))
				for j, other := range f.Buses {
					if other.Parent == int64(i) {
						left = impl.LessPhases(left, flow.Currents[j])
					}
				}
				for place := range 3 {
					if long := impl.LongOf(phaseAt(left, place)); long > want {
						want = long
					}
				}
			}
			expectNumber(t, "MismatchOf", ofFlow(t, f, flow, impl.MismatchOf), want)
		}
	}
}
