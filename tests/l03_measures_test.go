package tests

import (
	"fmt"
	"testing"

	"loop.example/g01212/impl"
)

// expectLowest reports another lowest bus than there must be, also for a flow with other fields.
func expectLowest(t *testing.T, voltages []impl.Phases, wantBus int64, wantLow float32) {
	t.Helper()
	for _, parents := range [][]int64{rowParents(len(voltages)), starParents(len(voltages))} {
		bus, low, ok := impl.LowestBus(treeOf(parents), flowOf(voltages))
		if !ok || bus != wantBus {
			t.Errorf("LowestBus of %v: got %d, %v, want %d", voltages, bus, ok, wantBus)
		}
		expectNumber(t, "LowestBus", low, wantLow)
	}
}

// Promise 4: the lowest bus is the first one of several.
func TestLowestBus(t *testing.T) {
	high := impl.Phases{A: complex(3, 4), B: complex(0, -9), C: -7}
	for count := 1; count <= 16; count++ {
		expectLowest(t, repeated(high, count), 0, 5)
		for at := range count {
			for place := range 3 {
				voltages := repeated(high, count)
				voltages[at] = placed(complex(0, -4), place, 8)
				expectLowest(t, voltages, int64(at), 4)
				if at+1 < count {
					voltages[count-1] = placed(4, (place+1)%3, 100)
					expectLowest(t, voltages, int64(at), 4)
					voltages[count-1] = placed(complex(0, 3.5), (place+1)%3, 100)
					expectLowest(t, voltages, int64(count-1), 3.5)
				}
			}
		}
	}
	expectLowest(t, []impl.Phases{{A: 1, B: 1, C: 1}, {A: complex(negativeZero, negativeZero), B: 2, C: 2}, {}}, 1, 0)
	expectLowest(t, []impl.Phases{{A: 1, B: 1, C: 1}, {A: complex(leastSubnormal, 0), B: 2, C: 2}, {A: 1, B: complex(0, leastSubnormal), C: 1}}, 1, leastSubnormal)
}

// Promise 4: not-a-numbers are greater than all others, infinities among them.
func TestLowestBusOfOddVoltages(t *testing.T) {
	none, infinite := complex(notANumber, 1), complex(1, negativeInfinity)
	nothing := impl.Phases{A: none, B: none, C: complex(0, notANumber)}
	for place := range 3 {
		expectLowest(t, []impl.Phases{nothing, placed(5, place, none), nothing}, 1, 5)
		expectLowest(t, []impl.Phases{nothing, nothing, placed(infinite, place, none)}, 2, positiveInfinity)
		expectLowest(t, []impl.Phases{placed(infinite, place, none), nothing, placed(infinite, place, 9)}, 2, 9)
		expectLowest(t, []impl.Phases{placed(none, place, infinite), nothing, {A: infinite, B: infinite, C: infinite}}, 0, positiveInfinity)
		expectLowest(t, []impl.Phases{placed(none, place, 4), nothing, placed(3, place, none)}, 2, 3)
		expectLowest(t, []impl.Phases{placed(6, place, none), placed(6, (place+1)%3, none), placed(none, place, 6)}, 0, 6)
	}
	for count := 1; count <= 16; count++ {
		bus, low, ok := impl.LowestBus(treeOf(rowParents(count)), flowOf(repeated(nothing, count)))
		expectFailure(t, "LowestBus of not-a-numbers", bus == 0 && digitsOf(low) == digitsOf(0), ok)
	}
}

// Promise 4: the voltages of a path are those of its buses, from the root on.
func TestLongsAlong(t *testing.T) {
	for _, parents := range someParents() {
		f := treeOf(parents)
		var voltages []impl.Phases
		for i := range parents {
			n := float32(i + 1)
			voltages = append(voltages, impl.Phases{A: complex(3*n, -4*n), B: complex(negativeZero, n), C: complex(-100, float32(0))})
		}
		for bus := range parents {
			var want []string
			for _, at := range pathOf(parents, int64(bus)) {
				n := float32(at + 1)
				want = append(want, digitsOf(5*n), digitsOf(n), digitsOf(100))
			}
			longs, ok := impl.LongsAlong(f, flowOf(voltages), int64(bus))
			var got []string
			for _, long := range longs {
				got = append(got, digitsOf(long))
			}
			expect(t, fmt.Sprint("LongsAlong ", parents, bus), fmt.Sprint(got, ok), fmt.Sprint(want, true))
		}
	}
}

// Promise 4: odd voltages have the longs that LongOf tells.
func TestLongsOfOddVoltages(t *testing.T) {
	for _, p := range oddPhases() {
		for _, q := range oddPhases() {
			longs, ok := impl.LongsAlong(treeOf([]int64{-1, 0, 0}), flowOf([]impl.Phases{p, {}, q}), 2)
			if !ok || len(longs) != 6 {
				t.Fatalf("LongsAlong: got %v, %v", longs, ok)
			}
			for place := range 3 {
				expectNumber(t, "LongsAlong of the root", longs[place], impl.LongOf(phaseAt(p, place)))
				expectNumber(t, "LongsAlong of the bus", longs[3+place], impl.LongOf(phaseAt(q, place)))
			}
		}
	}
}

// Promise 4: the widest pair is the greatest one, and not-a-numbers give way to others.
func TestWidestPair(t *testing.T) {
	none := complex(notANumber, 0)
	cases := []struct {
		p    impl.Phases
		want float32
	}{
		{impl.Phases{}, 0},
		{impl.Phases{A: 5, B: 5, C: 5}, 0},
		{impl.Phases{A: 1, B: 4, C: 2}, 3},
		{impl.Phases{A: 4, B: 1, C: 3}, 3},
		{impl.Phases{A: 2, B: 1, C: 6}, 5},
		{impl.Phases{A: 6, B: 2, C: 1}, 5},
		{impl.Phases{A: complex(0, 4), B: 3}, 5},
		{impl.Phases{A: none, B: 4, C: complex(1, 4)}, 5},
		{impl.Phases{A: 4, B: none, C: complex(1, 4)}, 5},
		{impl.Phases{A: complex(1, 4), B: 4, C: none}, 5},
		{impl.Phases{A: none, B: none, C: 4}, notANumber},
		{impl.Phases{A: 4, B: none, C: none}, notANumber},
		{impl.Phases{A: none, B: 4, C: none}, notANumber},
		{impl.Phases{A: none, B: none, C: none}, notANumber},
		{impl.Phases{A: complex(0, positiveInfinity), B: 4, C: 3}, positiveInfinity},
		{impl.Phases{A: complex(positiveInfinity, 0), B: complex(positiveInfinity, 0), C: 3}, positiveInfinity},
		{impl.Phases{A: complex(positiveInfinity, 0), B: complex(negativeInfinity, 0), C: complex(positiveInfinity, 0)}, positiveInfinity},
		{impl.Phases{A: complex(positiveInfinity, 0), B: complex(positiveInfinity, 0), C: complex(positiveInfinity, 0)}, notANumber},
		{impl.Phases{A: complex(greatestNumber, 0), B: complex(-greatestNumber, 0), C: 1}, positiveInfinity},
		{impl.Phases{A: complex(leastSubnormal, 0)}, leastSubnormal},
		{impl.Phases{A: complex(negativeZero, negativeZero)}, 0},
		{impl.Phases{A: greatOdd, B: -1, C: greatOdd}, greatOdd},
	}
	for _, c := range cases {
		expectNumber(t, "WidestPair of "+phasesText(c.p), impl.WidestPair(c.p), c.want)
	}
	for _, p := range oddPhases() {
		want := notANumber
		for _, difference := range []complex64{p.A - p.B, p.B - p.C, p.C - p.A} {
			if long := impl.LongOf(difference); !(long <= want) && long == long {
				want = long
			}
		}
		expectNumber(t, "WidestPair of "+phasesText(p), impl.WidestPair(p), want)
	}
}
