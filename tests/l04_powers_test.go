package tests

import (
	"fmt"
	"testing"

	"loop.example/g01212/impl"
)

// widePowerOf returns the power between phases in 64-bit numbers.
func widePowerOf(voltage, current impl.Phases) complex128 {
	var sum complex128
	for place := range 3 {
		v, c := phaseAt(voltage, place), phaseAt(current, place)
		sum += complex128(v) * complex(float64(real(c)), -float64(imag(c)))
	}
	return sum
}

// Promise 5: the example of the document, and the place of the conjugate.
func TestPowerBetween(t *testing.T) {
	for place := range 3 {
		got := impl.PowerBetween(placed(2, place, 0), placed(complex(0, 1), place, 0))
		expectComplex(t, "PowerBetween 2 and i", got, complex(0, -2))
		got = impl.PowerBetween(placed(complex(0, 1), place, 0), placed(2, place, 0))
		expectComplex(t, "PowerBetween i and 2", got, complex(0, 2))
		got = impl.PowerBetween(placed(5, place, 3), placed(0, place, 0))
		expectComplex(t, "PowerBetween with no current", got, 0)
	}
	for _, p := range smallLoads(8) {
		for _, q := range smallLoads(8) {
			expectComplex(t, "PowerBetween", impl.PowerBetween(p, q), complex64(widePowerOf(p, q)))
		}
	}
}

// Promise 5: the sum goes from A to C, and is rounded each time.
func TestOrderOfPowers(t *testing.T) {
	one := impl.Phases{A: 1, B: 1, C: 1}
	expectComplex(t, "A first", impl.PowerBetween(impl.Phases{A: greatOdd, B: 1, C: 1}, one), greatOdd)
	expectComplex(t, "B first", impl.PowerBetween(impl.Phases{A: 1, B: greatOdd, C: 1}, one), greatOdd)
	expectComplex(t, "C last", impl.PowerBetween(impl.Phases{A: 1, B: 1, C: greatOdd}, one), greatOdd+2)
	expectComplex(t, "A and B", impl.PowerBetween(impl.Phases{A: greatOdd, B: 1, C: -greatOdd}, one), 0)
	zero := complex(negativeZero, negativeZero)
	expectComplex(t, "zeros with signs", impl.PowerBetween(impl.Phases{A: zero, B: zero, C: zero}, one), 0)
}

// Promise 5: each power is the sum of three products, for all odd phases.
func TestPowersOfOddPhases(t *testing.T) {
	for _, p := range oddPhases() {
		for _, q := range oddPhases() {
			var want complex64
			for place := range 3 {
				want += impl.MulComplex(phaseAt(p, place), impl.ConjugateOf(phaseAt(q, place)))
			}
			expectComplex(t, "PowerBetween", impl.PowerBetween(p, q), want)
		}
	}
}

// wideLoss returns the loss of a line in 64-bit numbers.
func wideLoss(b impl.Bus, current impl.Phases) complex128 {
	list := [3]complex128{complex128(current.A), complex128(current.B), complex128(current.C)}
	var sum complex128
	for i, x := range list {
		drop := complex128(b.Own)*x + complex128(b.Shared)*(list[(i+1)%3]+list[(i+2)%3])
		sum += drop * complex(real(x), -imag(x))
	}
	return sum
}

// Promises 3 and 5: losses of lines are those of their drops, exactly for small integers.
func TestLossesOf(t *testing.T) {
	for _, parents := range someParents() {
		f := treeOf(parents)
		flow := impl.Flow{Voltages: repeated(impl.Phases{A: 7}, len(parents)), Currents: make([]impl.Phases, len(parents))}
		want := make([]complex64, len(parents))
		for i, b := range f.Buses {
			n := float32(i + 1)
			flow.Currents[i] = impl.Phases{A: complex(n, -2), B: complex(3, n), C: complex(-1, 1)}
			want[i] = complex64(wideLoss(b, flow.Currents[i]))
		}
		want[0] = 0
		expectComplexList(t, fmt.Sprint("LossesOf ", parents), ofFlow(t, f, flow, impl.LossesOf), want)
	}
}

// Promises 3 and 5: losses and powers of loads are made of DropOf and LoadCurrentOf, for odd numbers too.
func TestPowersOfOddFlows(t *testing.T) {
	for _, f := range oddFeeders() {
		for _, flow := range oddFlows(len(f.Buses)) {
			var losses, loads []complex64
			for i, b := range f.Buses {
				losses = append(losses, impl.PowerBetween(impl.DropOf(b, flow.Currents[i]), flow.Currents[i]))
				loads = append(loads, impl.PowerBetween(flow.Voltages[i], impl.LoadCurrentOf(b, flow.Voltages[i])))
			}
			losses[0] = 0
			expectComplexList(t, "LossesOf", ofFlow(t, f, flow, impl.LossesOf), losses)
			expectComplexList(t, "LoadPowersOf", ofFlow(t, f, flow, impl.LoadPowersOf), loads)
		}
	}
}

// Promise 5: the root has no losses, whatever its current and the signs of its impedances are.
func TestRootHasNoLosses(t *testing.T) {
	for _, p := range oddPhases() {
		for _, parents := range [][]int64{{-1}, {-1, 0}, starParents(16)} {
			f := treeOf(parents)
			f.Source, f.Buses[0].Own, f.Buses[0].Shared = p, complex(negativeZero, 0), complex(0, negativeZero)
			flow := impl.Flow{Voltages: repeated(p, len(parents)), Currents: repeated(impl.Phases{}, len(parents))}
			flow.Currents[0] = p
			expectComplexList(t, "LossesOf", ofFlow(t, f, flow, impl.LossesOf), make([]complex64, len(parents)))
		}
	}
}

// Promises 3 and 5: loads of each kind take what they are told to take, exactly for powers of 2.
func TestLoadPowersOf(t *testing.T) {
	voltage := impl.Phases{A: 4, B: complex(0, 8), C: -2}
	cases := []struct {
		kind int64
		load impl.Phases
		want complex64
	}{
		{impl.LoadPower, impl.Phases{A: complex(6, 3), B: 2, C: complex(0, -4)}, complex(8, -1)},
		{impl.LoadCurrent, impl.Phases{A: complex(6, 3), B: 2, C: complex(0, -4)}, complex(24, -4)},
		{impl.LoadImpedance, impl.Phases{A: 2, B: complex(0, 4), C: complex(1, 1)}, complex(10, 18)},
		{impl.LoadPower, impl.Phases{B: 2}, 2},
		{impl.LoadCurrent, impl.Phases{C: 2}, -4},
		{impl.LoadImpedance, impl.Phases{A: 2}, 8},
	}
	for _, c := range cases {
		for _, parents := range [][]int64{{-1}, {-1, 0, 1}, rowParents(16)} {
			f, want := treeOf(parents), make([]complex64, len(parents))
			flow := flowOf(repeated(impl.Phases{A: 1, B: 1, C: 1}, len(parents)))
			for i := range f.Buses {
				f.Buses[i].Load = impl.Phases{}
			}
			last := len(parents) - 1
			f.Buses[last].Kind, f.Buses[last].Load, flow.Voltages[last], want[last] = c.kind, c.load, voltage, c.want
			expectComplexList(t, fmt.Sprint("LoadPowersOf ", c), ofFlow(t, f, flow, impl.LoadPowersOf), want)
		}
	}
}

// Promise 5: no loads take no power at finite voltages, whatever the signs of the zeros are.
func TestNoLoadPowers(t *testing.T) {
	zero := complex(negativeZero, negativeZero)
	for kind := range int64(3) {
		f := treeOf([]int64{-1, 0})
		f.Buses[0].Kind, f.Buses[0].Load = kind, impl.Phases{}
		f.Buses[1].Kind, f.Buses[1].Load = kind, impl.Phases{A: zero, B: -zero, C: zero}
		for _, x := range []complex64{0, zero, complex(5, -3), complex(greatestNumber, -greatestNumber)} {
			flow := flowOf(repeated(impl.Phases{A: x, B: -x, C: x}, 2))
			expectComplexList(t, "LoadPowersOf", ofFlow(t, f, flow, impl.LoadPowersOf), make([]complex64, 2))
		}
		infinite := flowOf(repeated(impl.Phases{A: complex(positiveInfinity, 0)}, 2))
		none := complex(notANumber, notANumber)
		expectComplexList(t, "LoadPowersOf infinities", ofFlow(t, f, infinite, impl.LoadPowersOf), []complex64{none, none})
	}
}

// Promise 5: the power of the source is that at the root, whatever the Source of the feeder is.
func TestSourcePowerOf(t *testing.T) {
	for _, p := range oddPhases() {
		for _, q := range oddPhases() {
			f := treeOf([]int64{-1, 0})
			flow := impl.Flow{Voltages: []impl.Phases{p, {A: 9}}, Currents: []impl.Phases{q, {A: 7}}}
			expectComplex(t, "SourcePowerOf", ofFlow(t, f, flow, impl.SourcePowerOf), impl.PowerBetween(p, q))
		}
	}
}

// Promise 5: totals begin with +0 and go from left to right, up to the limit of buses.
func TestTotalPower(t *testing.T) {
	great := complex(greatestNumber, 0)
	cases := []struct {
		list []complex64
		want complex64
	}{
		{nil, 0}, {[]complex64{}, 0},
		{[]complex64{1, complex(0, 2), 3}, complex(4, 2)},
		{[]complex64{complex(negativeZero, negativeZero)}, 0},
		{[]complex64{greatOdd, 1, 1}, greatOdd}, {[]complex64{1, 1, greatOdd}, greatOdd + 2},
		{[]complex64{complex(0, greatOdd), complex(0, 1), complex(0, -greatOdd)}, 0},
		{[]complex64{complex(positiveInfinity, 1), complex(1, negativeInfinity)}, complex(positiveInfinity, negativeInfinity)},
		{[]complex64{complex(positiveInfinity, 1), complex(negativeInfinity, 2)}, complex(notANumber, 3)},
		{[]complex64{complex(1, notANumber), 1}, complex(2, notANumber)},
		{[]complex64{great, great, -great}, complex(positiveInfinity, 0)},
		{repeated(complex64(complex(1, -3)), 15), complex(15, -45)},
		{repeated(complex64(complex(1, -3)), 16), complex(16, -48)},
	}
	for _, c := range cases {
		total, ok := impl.TotalPower(c.list)
		if !ok {
			t.Errorf("TotalPower of %v: fails", c.list)
		}
		expectComplex(t, fmt.Sprint("TotalPower of ", c.list), total, c.want)
	}
}

// Promise 5: a factor is +0 where there is no power, and rounded elsewhere.
func TestFactorOf(t *testing.T) {
	cases := []struct {
		power complex64
		want  float32
	}{
		{complex(3, 4), 0.6}, {complex(-3, 4), -0.6}, {complex(4, -3), 0.8},
		{5, 1}, {-5, -1}, {complex(0, 4), 0}, {complex(negativeZero, -4), negativeZero},
		{0, 0}, {complex(negativeZero, negativeZero), 0}, {complex(negativeZero, 0), 0}, {complex(0, negativeZero), 0},
		{complex(leastSubnormal, 0), 1}, {complex(-leastSubnormal, negativeZero), -1}, {complex(0, leastSubnormal), 0},
		{complex(greatestNumber, greatestNumber), 0}, {complex(-greatestNumber, greatestNumber), negativeZero}, {complex(greatestNumber, 0), 1},
		{complex(positiveInfinity, 1), notANumber}, {complex(negativeInfinity, negativeInfinity), notANumber},
		{complex(1, positiveInfinity), 0}, {complex(-1, negativeInfinity), negativeZero},
		{complex(notANumber, 0), notANumber}, {complex(0, notANumber), notANumber}, {complex(positiveInfinity, notANumber), notANumber},
	}
	for _, c := range cases {
		expectNumber(t, "FactorOf "+partsOf(c.power), impl.FactorOf(c.power), c.want)
	}
}
