package tests

import (
	"fmt"
	"slices"
	"testing"

	"loop.example/g01212/impl"
)

// shareOf returns DropShareOf the bus 2 with a voltage and that of the root.
func shareOf(t *testing.T, root, voltage impl.Phases) float32 {
	t.Helper()
	flow := flowOf([]impl.Phases{root, {A: 999, B: 999, C: 999}, voltage})
	return ofFlow(t, treeOf([]int64{-1, 0, 1}), flow, dropShareAt(2))
}

// Promise 5: the share of a drop is the greatest one of three, of absolute values.
func TestDropShareOf(t *testing.T) {
	root := impl.Phases{A: 8, B: complex(0, -8), C: complex(-8, 0)}
	expectNumber(t, "DropShareOf the document", shareOf(t, root, impl.Phases{A: 6, B: 4, C: 8}), 0.5)
	expectNumber(t, "DropShareOf the root's voltage", shareOf(t, root, root), 0)
	expectNumber(t, "DropShareOf turned voltages", shareOf(t, root, impl.Phases{A: complex(0, 8), B: 8, C: 8}), 0)
	expectNumber(t, "DropShareOf a rise", shareOf(t, root, impl.Phases{A: 10, B: 12, C: 16}), -0.25)
	for place := range 3 {
		expectNumber(t, "DropShareOf no voltage", shareOf(t, root, placed(0, place, 8)), 1)
		expectNumber(t, "DropShareOf", shareOf(t, root, placed(complex(0, -2), place, 4)), 0.75)
		expectNumber(t, "DropShareOf rounded", shareOf(t, placed(3, place, 1), placed(1, place, 1)), 1-float32(1)/3)
	}
	tiny := impl.Phases{A: complex(leastSubnormal, 0), B: complex(leastSubnormal, 0), C: complex(leastSubnormal, 0)}
	expectNumber(t, "DropShareOf the least number", shareOf(t, tiny, tiny), 0)
}

// Promise 5: not-a-numbers are less than all others among the shares of drops.
func TestDropShareOfOddVoltages(t *testing.T) {
	none, infinite := complex(1, notANumber), complex(negativeInfinity, 1)
	all := func(x complex64) impl.Phases { return impl.Phases{A: x, B: x, C: x} }
	for place := range 3 {
		expectNumber(t, "one not-a-number", shareOf(t, all(8), placed(none, place, 6)), 0.25)
		expectNumber(t, "two not-a-numbers", shareOf(t, all(8), placed(6, place, none)), 0.25)
		expectNumber(t, "a root without a voltage", shareOf(t, placed(0, place, 8), placed(0, place, 10)), -0.25)
		expectNumber(t, "a voltage by zero", shareOf(t, placed(0, place, 8), all(10)), -0.25)
		expectNumber(t, "an infinity", shareOf(t, all(8), placed(infinite, place, 10)), -0.25)
		expectNumber(t, "infinities", shareOf(t, all(8), placed(none, place, infinite)), negativeInfinity)
		expectNumber(t, "an infinite root", shareOf(t, placed(infinite, place, 8), placed(3, place, 9)), 1)
		expectNumber(t, "infinities in both", shareOf(t, placed(infinite, place, 8), placed(infinite, place, 9)), -0.125)
		expectNumber(t, "one that counts", shareOf(t, placed(8, place, none), placed(2, place, none)), 0.75)
	}
	for _, p := range []impl.Phases{all(none), all(complex(notANumber, notANumber))} {
		expectNumber(t, "all not-a-numbers", shareOf(t, all(8), p), notANumber)
		expectNumber(t, "a root of not-a-numbers", shareOf(t, p, all(8)), notANumber)
	}
	expectNumber(t, "zeros by zeros", shareOf(t, all(0), all(0)), notANumber)
	expectNumber(t, "numbers by zeros", shareOf(t, all(0), all(1)), negativeInfinity)
	expectNumber(t, "infinities by infinities", shareOf(t, all(infinite), all(infinite)), notANumber)
}

// Promise 5: the share of the root is that of its own voltage, and of each bus its own one.
func TestDropSharesOfBuses(t *testing.T) {
	for _, parents := range [][]int64{{-1}, {-1, 0, 0, 1}, rowParents(16), starParents(16)} {
		f, flow := treeOf(parents), flowOf(make([]impl.Phases, len(parents)))
		for i := range parents {
			x := complex(0, 64-float32(i))
			flow.Voltages[i] = impl.Phases{A: x, B: 64, C: 64}
		}
		for i := range parents {
			want := 1 - (64-float32(i))/64
			expectNumber(t, fmt.Sprint("DropShareOf ", i), ofFlow(t, f, flow, dropShareAt(int64(i))), want)
		}
		flow.Voltages[0] = impl.Phases{}
		expectNumber(t, "DropShareOf a root without voltages", ofFlow(t, f, flow, dropShareAt(0)), notANumber)
	}
}

// checkSets compares the sets of buses beyond a bound, one as currents and one as voltages.
func checkSets(t *testing.T, list []impl.Phases, bound float32) {
	t.Helper()
	var over, under []int64
	for i, p := range list {
		longs := []float32{impl.LongOf(p.A), impl.LongOf(p.B), impl.LongOf(p.C)}
		if slices.ContainsFunc(longs, func(long float32) bool { return long > bound }) {
			over = append(over, int64(i))
		}
		if slices.ContainsFunc(longs, func(long float32) bool { return long < bound }) {
			under = append(under, int64(i))
		}
	}
	for _, parents := range [][]int64{rowParents(len(list)), starParents(len(list))} {
		f, others := treeOf(parents), repeated(impl.Phases{A: complex(notANumber, 0), B: complex(bound, 0), C: complex(0, bound)}, len(list))
		expectList(t, fmt.Sprint("OverLoads ", bound), ofFlow(t, f, impl.Flow{Voltages: others, Currents: list}, overLoads(bound)), true, over)
		expectList(t, fmt.Sprint("UnderVoltages ", bound), ofFlow(t, f, impl.Flow{Voltages: list, Currents: others}, underVoltages(bound)), true, under)
	}
}

// Promise 5: sets of buses are increasing, and each bus with one phase beyond the bound is there once.
func TestSetsOfBuses(t *testing.T) {
	for count := 1; count <= 16; count++ {
		for at := range count {
			for place := range 3 {
				list := repeated(impl.Phases{A: 5, B: complex(3, 4), C: complex(0, -5)}, count)
				list[at] = placed(complex(0, 6), place, 5)
				list[(at+3)%count] = placed(4, place, 5)
				for _, bound := range []float32{4, 5, 5.5, 6, 7} {
					checkSets(t, list, bound)
				}
			}
		}
		all := repeated(impl.Phases{A: 5, B: 6, C: 7}, count)
		checkSets(t, all, 1)
		checkSets(t, all, 8)
	}
	f, flow := treeOf([]int64{-1, 0, 0}), flowOf([]impl.Phases{{A: 5, B: 5, C: 4}, {A: 5, B: 5, C: 5}, {A: 1, B: 1, C: 1}})
	expectList(t, "UnderVoltages", ofFlow(t, f, flow, underVoltages(4.5)), true, []int64{0, 2})
	flow.Currents = []impl.Phases{{A: 1, B: 2}, {C: complex(3, 4)}, {B: 2}}
	expectList(t, "OverLoads", ofFlow(t, f, flow, overLoads(2)), true, []int64{1})
	expectList(t, "OverLoads", ofFlow(t, f, flow, overLoads(1)), true, []int64{0, 1, 2})
}

// Promise 5: bounds can be any numbers, and a not-a-number is on neither side.
func TestSetsOfOddBounds(t *testing.T) {
	infinite, none := complex(positiveInfinity, 1), complex(notANumber, 1)
	list := []impl.Phases{{}, {A: none, B: none, C: none}, {A: infinite, B: none, C: none}, {A: 1, B: 2, C: 3}, {A: complex(leastSubnormal, 0), B: none}}
	for _, bound := range append(oddNumbers(), 2, 3) {
		checkSets(t, list, bound)
	}
	cases := []struct {
		bound       float32
		over, under []int64
	}{
		{0, []int64{2, 3, 4}, nil}, {negativeZero, []int64{2, 3, 4}, nil}, {-1, []int64{0, 2, 3, 4}, nil},
		{negativeInfinity, []int64{0, 2, 3, 4}, nil}, {positiveInfinity, nil, []int64{0, 3, 4}}, {notANumber, nil, nil},
		{leastSubnormal, []int64{2, 3}, []int64{0, 4}}, {greatestNumber, []int64{2}, []int64{0, 3, 4}},
	}
	f := treeOf(rowParents(5))
	for _, c := range cases {
		flow := impl.Flow{Voltages: list, Currents: list}
		expectList(t, fmt.Sprint("OverLoads ", c.bound), ofFlow(t, f, flow, overLoads(c.bound)), true, c.over)
		expectList(t, fmt.Sprint("UnderVoltages ", c.bound), ofFlow(t, f, flow, underVoltages(c.bound)), true, c.under)
	}
	for _, p := range oddPhases() {
		for _, bound := range oddNumbers() {
			checkSets(t, []impl.Phases{p, {A: 1}, p}, bound)
		}
	}
}

// Promise 5: even phases are balanced, nearly, and phases that are all zero have no mean to be divided by.
func TestUnbalanceOf(t *testing.T) {
	for _, x := range []complex64{1, complex(3, -4), 240, complex(0, 1e-20), 1e20} {
		if got := impl.UnbalanceOf(impl.EvenPhases(x)); got > 1e-6 {
			t.Errorf("UnbalanceOf EvenPhases %v: got %v", x, got)
		}
	}
	for place := range 3 {
		if got := impl.UnbalanceOf(placed(complex(0, -3), place, 0)); got < 1.99999 || got > 2.00001 {
			t.Errorf("UnbalanceOf one phase: got %v", got)
		}
		if got := impl.UnbalanceOf(placed(3, place, 6)); got < 0.39999 || got > 0.40001 {
			t.Errorf("UnbalanceOf a low phase: got %v", got)
		}
		expectNumber(t, "UnbalanceOf an infinity", impl.UnbalanceOf(placed(complex(1, negativeInfinity), place, 2)), notANumber)
		expectNumber(t, "UnbalanceOf a not-a-number", impl.UnbalanceOf(placed(complex(1, notANumber), place, 2)), notANumber)
		expectNumber(t, "UnbalanceOf the least number", impl.UnbalanceOf(placed(complex(0, leastSubnormal), place, 0)), positiveInfinity)
	}
	zero := complex(negativeZero, negativeZero)
	expectNumber(t, "UnbalanceOf zeros", impl.UnbalanceOf(impl.Phases{}), notANumber)
	expectNumber(t, "UnbalanceOf zeros with signs", impl.UnbalanceOf(impl.Phases{A: zero, B: zero, C: zero}), notANumber)
	great := impl.Phases{A: complex(greatestNumber, 0), B: complex(greatestNumber, 0), C: complex(greatestNumber, 0)}
	expectNumber(t, "UnbalanceOf a sum beyond all numbers", impl.UnbalanceOf(great), notANumber)
}
