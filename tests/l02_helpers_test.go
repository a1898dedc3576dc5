package tests

import (
	"fmt"
	"math"
	"slices"
	"strings"
	"testing"

	"loop.example/g01212/impl"
)

// phasesText tells the digits of A, B and C.
func phasesText(p impl.Phases) string {
	return partsOf(p.A) + " " + partsOf(p.B) + " " + partsOf(p.C)
}

// busText tells all fields of a bus.
func busText(b impl.Bus) string {
	return fmt.Sprint(b.Parent, " ", b.Kind, " ", b.Customers, " ", partsOf(b.Own), " ", partsOf(b.Shared), " ", phasesText(b.Load))
}

// feederText tells all fields of a feeder.
func feederText(f impl.Feeder) string {
	lines := []string{phasesText(f.Source)}
	for _, b := range f.Buses {
		lines = append(lines, busText(b))
	}
	return strings.Join(lines, "; ")
}

// expectPhases reports phases that are not the same as they must be.
func expectPhases(t *testing.T, what string, got, want impl.Phases) {
	t.Helper()
	expect(t, what, phasesText(got), phasesText(want))
}

// expectFeeder reports a failure, and a feeder that is not the same as it must be.
func expectFeeder(t *testing.T, what string, got impl.Feeder, ok bool, want impl.Feeder) {
	t.Helper()
	if !ok {
		t.Errorf("%s: fails", what)
	}
	expect(t, what, feederText(got), feederText(want))
}

// expectNoFeeder reports a feeder that is not the zero value of a failure.
func expectNoFeeder(t *testing.T, what string, got impl.Feeder, ok bool) {
	t.Helper()
	expectFailure(t, what, feederText(got) == feederText(impl.Feeder{}), ok)
}

// expectList reports a failure, and a list that is not what it must be.
func expectList(t *testing.T, what string, got []int64, ok bool, want []int64) {
	t.Helper()
	if !ok || !slices.Equal(got, want) {
		t.Errorf("%s: got %v, %v, want %v", what, got, ok, want)
	}
}

// oddPhases are phases at the edges of the 32-bit format, and some others.
func oddPhases() []impl.Phases {
	numbers := oddNumbers()
	count := len(numbers)
	var list []impl.Phases
	for i, x := range numbers {
		list = append(list, impl.Phases{
			A: complex(x, numbers[(i+5)%count]),
			B: complex(numbers[(3*i+1)%count], x),
			C: complex(numbers[(7*i+2)%count], numbers[(i+11)%count]),
		})
	}
	return append(list, impl.Phases{}, impl.Phases{A: 1, B: 2, C: 3}, impl.Phases{A: complex(0.1, 7), B: complex(-3, 0.3), C: complex(12.7, -0.9)})
}

// treeOf returns a feeder with the given parents, each bus of which can be told
// from all others by each of its numbers.
func treeOf(parents []int64) impl.Feeder {
	f := impl.Feeder{Source: impl.Phases{A: 240, B: complex(-120, -208), C: complex(-120, 208)}}
	for i, parent := range parents {
		n := float32(i + 1)
		b := impl.Bus{
			Parent: parent, Own: complex(n, 2*n), Shared: complex(-n, n/4), Kind: int64(i % 3),
			Load: impl.Phases{A: complex(n, 1), B: complex(2, n), C: complex(-n, -n)}, Customers: int64(1) << (i % 16),
		}
		if i == 0 {
			b.Own, b.Shared = 0, 0
		}
		f.Buses = append(f.Buses, b)
	}
	return f
}

// parentsUpTo returns the parents of all trees with 1 to most buses.
func parentsUpTo(most int) [][]int64 {
	level := [][]int64{{-1}}
	all := slices.Clone(level)
	for count := 1; count < most; count++ {
		var next [][]int64
		for _, parents := range level {
			for parent := range int64(count) {
				next = append(next, append(slices.Clone(parents), parent))
			}
		}
		level = next
		all = append(all, level...)
	}
	return all
}

// rowParents are the parents of a tree that is one row of buses.
func rowParents(count int) []int64 {
	var parents []int64
	for i := range count {
		parents = append(parents, int64(i-1))
	}
	return parents
}

// starParents are the parents of a tree whose buses are all behind the root.
func starParents(count int) []int64 {
	return append([]int64{-1}, make([]int64, count-1)...)
}

// someParents are the parents of all small trees, and of some at the limit of buses.
func someParents() [][]int64 {
	return append(parentsUpTo(6), rowParents(16), starParents(16),
		[]int64{-1, 0, 0, 1, 1, 2, 2, 3, 3, 4, 4, 5, 5, 6, 6, 7},
		[]int64{-1, 0, 1, 0, 3, 2, 0, 5, 4, 4, 1, 9, 10, 3, 12, 6})
}

// changedBus returns a tree with a change of one bus.
func changedBus(parents []int64, bus int, change func(b *impl.Bus)) impl.Feeder {
	f := treeOf(parents)
	change(&f.Buses[bus])
	return f
}

// wrongFeeders are feeders that are not valid, each for one reason.
func wrongFeeders() map[string]impl.Feeder {
	wrong := map[string]impl.Feeder{
		"no buses":          {},
		"a source alone":    {Source: impl.Phases{A: 1}, Buses: []impl.Bus{}},
		"17 buses in a row": treeOf(rowParents(17)),
		"17 buses around":   treeOf(starParents(17)),
		"1000 buses":        treeOf(starParents(1000)),
	}
	parents := []int64{-1, 0, 1, 1}
	for _, parent := range []int64{0, 1, -2, math.MinInt64, math.MaxInt64} {
		wrong[fmt.Sprint("Parent of the root ", parent)] = changedBus(parents, 0, func(b *impl.Bus) { b.Parent = parent })
	}
	for _, line := range []complex64{1, complex(0, 1), complex(negativeZero, leastSubnormal), complex(notANumber, 0), complex(0, notANumber), complex(positiveInfinity, 0)} {
		wrong["Own of the root "+partsOf(line)] = changedBus(parents, 0, func(b *impl.Bus) { b.Own = line })
		wrong["Shared of the root "+partsOf(line)] = changedBus(parents, 0, func(b *impl.Bus) { b.Shared = line })
	}
	for bus := range 4 {
		for _, kind := range []int64{-1, 3, 4294967296, math.MinInt64, math.MaxInt64} {
			wrong[fmt.Sprint("Kind of ", bus, ": ", kind)] = changedBus(parents, bus, func(b *impl.Bus) { b.Kind = kind })
		}
		for _, customers := range []int64{-1, 1000001, math.MinInt64, math.MaxInt64} {
			wrong[fmt.Sprint("Customers of ", bus, ": ", customers)] = changedBus(parents, bus, func(b *impl.Bus) { b.Customers = customers })
		}
		for _, parent := range []int64{-1, -2, int64(bus), int64(bus + 1), 4, math.MinInt64, math.MaxInt64} {
			if bus > 0 {
				wrong[fmt.Sprint("Parent of ", bus, ": ", parent)] = changedBus(parents, bus, func(b *impl.Bus) { b.Parent = parent })
			}
		}
	}
	return wrong
}

// absentBuses are indices of which a feeder with so many buses has none.
func absentBuses(f impl.Feeder) []int64 {
	count := int64(len(f.Buses))
	return []int64{-1, -2, count, count + 1, 4294967296, math.MinInt64, math.MaxInt64}
}
