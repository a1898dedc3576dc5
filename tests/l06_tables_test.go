package tests

import (
	"fmt"
	"testing"

	"loop.example/g01212/impl"
)

// Promise 7: the greatest one is the first one, or the second one if it is greater, or the third one if it is greater than both.
func TestGreatestOf(t *testing.T) {
	none, infinite := complex(notANumber, 1), complex(1, negativeInfinity)
	cases := []struct {
		p    impl.Phases
		want float32
	}{
		{impl.Phases{A: 1, B: -3, C: 2}, 3}, {impl.Phases{A: complex(3, 4), B: 1, C: complex(0, -4.5)}, 5}, {impl.Phases{A: 1, B: 2, C: complex(-8, 15)}, 17},
		{impl.Phases{}, 0}, {sameThree(complex(negativeZero, negativeZero)), 0}, {sameThree(complex(0, -7)), 7},
		{impl.Phases{A: none, B: 2, C: 3}, notANumber}, {impl.Phases{A: 2, B: none, C: 3}, 2}, {impl.Phases{A: 3, B: none, C: 2}, 3},
		{impl.Phases{A: 2, B: 3, C: none}, 3}, {impl.Phases{A: 3, B: 2, C: none}, 3}, {impl.Phases{A: none, B: none, C: 3}, notANumber},
		{impl.Phases{A: 2, B: none, C: none}, 2}, {impl.Phases{A: none, B: 2, C: none}, notANumber}, {sameThree(none), notANumber},
		{impl.Phases{A: infinite, B: 2, C: 3}, positiveInfinity}, {impl.Phases{A: 2, B: infinite, C: 3}, positiveInfinity},
		{impl.Phases{A: 2, B: 3, C: infinite}, positiveInfinity}, {impl.Phases{A: 2, B: none, C: infinite}, 2}, {impl.Phases{A: none, B: infinite, C: 1}, notANumber},
		{impl.Phases{B: complex(0, leastSubnormal)}, leastSubnormal}, {sameThree(complex(greatestNumber, greatestNumber)), positiveInfinity},
	}
	for _, c := range cases {
		expectNumber(t, "GreatestOf "+phasesText(c.p), impl.GreatestOf(c.p), c.want)
	}
	for at := range 3 {
		expectNumber(t, "GreatestOf one great phase", impl.GreatestOf(placed(complex(-6, 8), at, 9)), 10)
		expectNumber(t, "GreatestOf one small phase", impl.GreatestOf(placed(complex(-6, 8), at, 11)), 11)
	}
}

// tableOf returns the greatest currents of faults at all buses, worked out from those.
func tableOf(f impl.Feeder, kind int64, through complex64) []float32 {
	var table []float32
	for bus := range int64(len(f.Buses)) {
		greatest := positiveInfinity
		if currents, ok := impl.FaultCurrents(f, bus, kind, through); ok {
			greatest = impl.GreatestOf(currents)
		}
		table = append(table, greatest)
	}
	return table
}

// checkTable compares the table and the weakest bus of a feeder with its faults.
func checkTable(t *testing.T, what string, f impl.Feeder, kind int64, through complex64) {
	t.Helper()
	want := tableOf(f, kind, through)
	expect(t, "FaultTable "+what, tellNumbers(faultTable(t, f, kind, through)), tellNumbers(want))
	weakest := 0
	for bus := range want {
		if want[bus] < want[weakest] {
			weakest = bus
		}
	}
	expectWeakest(t, what, f, kind, through, int64(weakest), want[weakest])
}

// Promise 7: tables have the greatest currents of all buses, and the weakest fault is their first least number.
func TestFaultTables(t *testing.T) {
	for _, kind := range faultKinds() {
		for _, through := range []complex64{0, complex(0.5, 3), -2, complex(notANumber, 0), complex(1e30, 1e30)} {
			for _, parents := range someParents() {
				checkTable(t, fmt.Sprint(kind, parents), treeOf(parents), kind, through)
			}
			for i, f := range oddFeeders() {
				checkTable(t, fmt.Sprint(kind, " of the odd feeder ", i), f, kind, through)
			}
		}
	}
}

// rising returns a feeder without shared impedances, whose buses stand behind the root, behind their impedances.
func rising(impedances ...complex64) impl.Feeder {
	f := impl.Feeder{Source: impl.Phases{A: 6}, Buses: []impl.Bus{{Parent: -1}}}
	for _, own := range impedances {
		f.Buses = append(f.Buses, impl.Bus{Own: own})
	}
	return f
}

// Promise 7: the farthest bus has the weakest fault, and of several with the same number the first one.
func TestWeakestFault(t *testing.T) {
	cases := []struct {
		f       impl.Feeder
		through complex64
		bus     int64
		want    float32
	}{
		{rising(1, 4, 2), 0, 2, 0.5}, {rising(4, 1, 2), 0, 1, 0.5}, {rising(1, 2, 4), 0, 3, 0.5},
		{rising(2, 2, 2), 0, 1, 1}, {rising(1, 2, 2, 1, 2), 0, 2, 1}, {rising(1, complex(0, 2), 1, -2), 0, 2, 1},
		{rising(1, 2), 2, 2, 0.5}, {rising(0, 0), 2, 0, 1}, {rising(-1, -4, -6), 4, 0, 0.5}, {rising(-4, 1, -4), 4, 2, 0.4},
		{rising(0, complex(notANumber, 0), complex(0, positiveInfinity)), 0, 0, positiveInfinity}, {rising(), 0, 0, positiveInfinity},
		{rising(0, 0, 2, 0), 0, 3, 1}, {rising(2, 2), -2, 0, 1}, {rising(), complex(0, -2), 0, 1},
		{rising(1, 1, 1, 1, 1, 1, 1, 1, 1, 1, 1, 1, 1, 1, 2), 0, 15, 1}, {rising(repeated(complex64(2), 15)...), 0, 1, 1},
	}
	for i, c := range cases {
		expectWeakest(t, fmt.Sprint("of the case ", i), c.f, impl.FaultThree, c.through, c.bus, c.want)
	}
}

// Promise 7: a table all of whose numbers are the positive infinity has the root as the weakest bus.
func TestTablesOfInfinities(t *testing.T) {
	for _, parents := range [][]int64{{-1}, {-1, 0, 1, 1}, rowParents(16), starParents(16)} {
		for _, kind := range faultKinds() {
			f, through := treeOf(parents), complex(notANumber, 1)
			for range 2 {
				want := repeated(positiveInfinity, len(parents))
				expect(t, "a table of infinities", tellNumbers(faultTable(t, f, kind, through)), tellNumbers(want))
				expectWeakest(t, "of infinities", f, kind, through, 0, positiveInfinity)
				f.Source, through = impl.Phases{B: complex(notANumber, 1)}, 1
			}
		}
	}
}

// Promise 7: the example of a row and a branch, whose third bus is the weakest one.
func TestTableOfTheExample(t *testing.T) {
	f := impl.Feeder{Source: impl.Phases{A: 6}, Buses: []impl.Bus{{Parent: -1}, {Parent: 0, Own: 1}, {Parent: 1, Own: 1}, {Parent: 1, Own: 3}}}
	expect(t, "FaultTable", tellNumbers(faultTable(t, f, impl.FaultThree, 0)), tellNumbers([]float32{positiveInfinity, 2, 1, 0.5}))
	expectWeakest(t, "of the example", f, impl.FaultThree, 0, 3, 0.5)
	expect(t, "FaultTable to the ground", tellNumbers(faultTable(t, f, impl.FaultGround, 0)), tellNumbers([]float32{positiveInfinity, 2, 1, 0.5}))
}
