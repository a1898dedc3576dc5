package tests

import (
	"fmt"
	"slices"
	"testing"

	"loop.example/g01212/impl"
)

// Promise 4: the feeder of the document's example.
func TestSweepsOfTheExample(t *testing.T) {
	f := impl.Feeder{Source: impl.Phases{A: 8, B: 8, C: 8}, Buses: []impl.Bus{
		{Parent: -1},
		{Parent: 0, Own: 1, Kind: impl.LoadCurrent, Load: impl.Phases{A: 2}},
	}}
	flat, ok := impl.FlatVoltages(f)
	expectPhasesList(t, "FlatVoltages", flat, ok, []impl.Phases{f.Source, f.Source})
	want := impl.Flow{
		Voltages: []impl.Phases{f.Source, {A: 6, B: 8, C: 8}},
		Currents: []impl.Phases{{A: 2}, {A: 2}}, Rounds: 1,
	}
	once, ok := impl.SweepOnce(f, flat)
	expectFlow(t, "SweepOnce", once, ok, want)
	want.Rounds, want.Rests = 2, true
	expectFlow(t, "SolveFeeder", solved(t, f, 50, 0), true, want)
}

// Promise 4: the source stands at each bus of flat voltages.
func TestFlatVoltages(t *testing.T) {
	for _, parents := range someParents() {
		for _, p := range oddPhases() {
			f := treeOf(parents)
			f.Source = p
			flat, ok := impl.FlatVoltages(f)
			expectPhasesList(t, "FlatVoltages", flat, ok, repeated(p, len(parents)))
		}
	}
}

// Promise 4: each load is that of its bus, of the bus's kind and at its voltages.
func TestLoadsAt(t *testing.T) {
	f := treeOf(someParents()[len(someParents())-1])
	for i, p := range oddPhases() {
		for j, q := range oddPhases() {
			f.Buses[i%16].Load = p
			voltages := slices.Repeat([]impl.Phases{q, {A: 1, B: 2, C: 4}, impl.NextPhases(p), {B: complex(3, -1)}}, 4)
			if j%2 == 1 {
				slices.Reverse(voltages)
			}
			var want []impl.Phases
			for bus, b := range f.Buses {
				want = append(want, impl.LoadCurrentOf(b, voltages[bus]))
			}
			loads, ok := impl.LoadsAt(f, voltages)
			expectPhasesList(t, "LoadsAt", loads, ok, want)
		}
	}
}

// Promise 4: loads of zero take +0, whatever their signs and the voltages are.
func TestNoLoads(t *testing.T) {
	zero := complex(negativeZero, negativeZero)
	for kind := range int64(3) {
		for _, p := range oddPhases() {
			f := treeOf([]int64{-1, 0, 0})
			f.Buses[0].Load, f.Buses[1].Load, f.Buses[2].Load = impl.Phases{}, impl.Phases{A: zero, B: -zero, C: zero}, impl.Phases{A: zero, B: 1}
			for i := range f.Buses {
				f.Buses[i].Kind = kind
			}
			loads, ok := impl.LoadsAt(f, repeated(p, 3))
			want := []impl.Phases{{}, {}, {B: impl.LoadCurrentOf(f.Buses[2], p).B}}
			expectPhasesList(t, "LoadsAt without loads", loads, ok, want)
		}
	}
}

// smallLoads returns phases of small integers for each bus.
func smallLoads(count int) []impl.Phases {
	var list []impl.Phases
	for i := range count {
		n := float32(i + 1)
		list = append(list, impl.Phases{A: complex(n, -n), B: complex(n*n, 1), C: complex(-3, float32(int(1)<<i))})
	}
	return list
}

// Promise 4: the current of each line is the sum of all loads below it, exactly for small integers.
func TestCurrentsAreSums(t *testing.T) {
	for _, parents := range someParents() {
		f, loads := treeOf(parents), smallLoads(len(parents))
		var want []impl.Phases
		for bus := range parents {
			var sum impl.Phases
			for _, at := range belowOf(parents, int64(bus)) {
				sum = impl.AddPhases(sum, loads[at])
			}
			want = append(want, sum)
		}
		currents, ok := impl.SumBack(f, loads)
		expectPhasesList(t, fmt.Sprint("SumBack of ", parents), currents, ok, want)
	}
}

// Promise 4: these sums begin with the bus's own load, and the last child is added first.
func TestOrderOfSums(t *testing.T) {
	cases := []struct {
		parents []int64
		loads   []float32
		want    []float32
	}{
		{starParents(4), []float32{greatOdd, 1, 1, 1}, []float32{greatOdd, 1, 1, 1}},
		{starParents(4), []float32{1, greatOdd, 1, 1}, []float32{greatOdd + 4, greatOdd, 1, 1}},
		{starParents(4), []float32{1, 0, greatOdd, 1}, []float32{greatOdd + 2, 0, greatOdd, 1}},
		{starParents(4), []float32{1, 1, 1, greatOdd}, []float32{greatOdd, 1, 1, greatOdd}},
		{starParents(4), []float32{1, 1, -greatOdd, greatOdd}, []float32{1, 1, -greatOdd, greatOdd}},
		{starParents(4), []float32{1, -greatOdd, 1, greatOdd}, []float32{0, -greatOdd, 1, greatOdd}},
		{starParents(4), []float32{0, greatOdd, 1, -greatOdd}, []float32{1, greatOdd, 1, -greatOdd}},
		{[]int64{-1, 0, 0, 1}, []float32{1, 1, 1, greatOdd}, []float32{greatOdd + 2, greatOdd, 1, greatOdd}},
		{[]int64{-1, 0, 1, 0}, []float32{greatOdd, 1, 1, 1}, []float32{greatOdd + 2, 2, 1, 1}},
		{rowParents(4), []float32{greatOdd, 1, 1, 1}, []float32{greatOdd + 4, 3, 2, 1}},
		{rowParents(2), []float32{negativeZero, negativeZero}, []float32{negativeZero, negativeZero}},
		{rowParents(2), []float32{negativeZero, 0}, []float32{0, 0}},
		{rowParents(2), []float32{0, negativeZero}, []float32{0, negativeZero}},
		{[]int64{-1}, []float32{negativeZero}, []float32{negativeZero}},
		{starParents(3), []float32{leastSubnormal, positiveInfinity, notANumber}, []float32{notANumber, positiveInfinity, notANumber}},
		{starParents(3), []float32{greatestNumber, greatestNumber, -greatestNumber}, []float32{greatestNumber, greatestNumber, -greatestNumber}},
		{starParents(3), []float32{greatestNumber, -greatestNumber, greatestNumber}, []float32{positiveInfinity, -greatestNumber, greatestNumber}},
	}
	for _, c := range cases {
		for place := range 3 {
			for part := range 2 {
				got, ok := impl.SumBack(treeOf(c.parents), placedAll(c.loads, place, part))
				expectPhasesList(t, fmt.Sprint("SumBack of ", c.parents, c.loads), got, ok, placedAll(c.want, place, part))
			}
		}
	}
}

// placedAll returns phases with the given real or imaginary parts in A, B or C.
func placedAll(numbers []float32, place, part int) []impl.Phases {
	var list []impl.Phases
	for _, x := range numbers {
		if part == 0 {
			list = append(list, placed(complex(x, 0), place, 0))
		} else {
			list = append(list, placed(complex(0, x), place, 0))
		}
	}
	return list
}

// Promise 4: voltages are those of the parents, less the drops of all lines.
func TestDropForth(t *testing.T) {
	for _, parents := range someParents() {
		f, currents := treeOf(parents), smallLoads(len(parents))
		var want []impl.Phases
		for bus := range parents {
			voltage := f.Source
			for _, at := range pathOf(parents, int64(bus))[1:] {
				voltage = impl.LessPhases(voltage, impl.DropOf(f.Buses[at], currents[at]))
			}
			want = append(want, voltage)
		}
		voltages, ok := impl.DropForth(f, currents)
		expectPhasesList(t, fmt.Sprint("DropForth of ", parents), voltages, ok, want)
	}
}

// Promise 4: the root has the source itself, also where its line has zeros with a sign.
func TestRootVoltages(t *testing.T) {
	for _, p := range oddPhases() {
		for _, q := range oddPhases() {
			f := treeOf([]int64{-1})
			f.Source, f.Buses[0].Own, f.Buses[0].Shared = p, complex(negativeZero, 0), complex(0, negativeZero)
			voltages, ok := impl.DropForth(f, []impl.Phases{q})
			expectPhasesList(t, "DropForth of a root", voltages, ok, []impl.Phases{p})
			currents, ok := impl.SumBack(f, []impl.Phases{q})
			expectPhasesList(t, "SumBack of a root", currents, ok, []impl.Phases{q})
		}
	}
}

// Promise 4: a round makes currents of voltages, and voltages of these currents.
func TestSweepOnce(t *testing.T) {
	feeders := oddFeeders()
	for _, parents := range someParents() {
		feeders = append(feeders, treeOf(parents), gentle(parents))
	}
	for _, f := range feeders {
		voltages := repeated(f.Source, len(f.Buses))
		for i := range voltages {
			voltages[i] = impl.ScalePhases(impl.NextPhases(voltages[i]), float32(i+1)/8)
		}
		currents, next := sweep(f, voltages)
		once, ok := impl.SweepOnce(f, voltages)
		expectFlow(t, "SweepOnce", once, ok, impl.Flow{Voltages: next, Currents: currents, Rounds: 1})
	}
}
