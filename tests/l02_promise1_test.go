package tests

import (
	"fmt"
	"slices"
	"testing"

	"loop.example/g01212/impl"
)

// tellBus tells what the functions of a feeder and a bus return.
func tellBus(f impl.Feeder, bus int64) string {
	path, isPath := impl.PathTo(f, bus)
	below, isBelow := impl.BusesBelow(f, bus)
	children, isParent := impl.ChildrenOf(f, bus)
	own, shared, isSum := impl.PathImpedance(f, bus)
	cut, isCut := impl.CutFeeder(f, bus)
	part, isPart := impl.PartFeeder(f, bus, otherSource)
	graft, isGraft := impl.GraftFeeder(f, bus, f, 1, 2)
	return fmt.Sprintln(path, isPath, below, isBelow, children, isParent, partsOf(own), partsOf(shared), isSum,
		feederText(cut), isCut, feederText(part), isPart, feederText(graft), isGraft)
}

// tellFeeder tells what the functions of a feeder return.
func tellFeeder(f impl.Feeder) string {
	depth, isDepth := impl.DepthOf(f)
	customers, isSum := impl.CustomersBelow(f)
	next, isNext := impl.NextFeeder(f)
	scaled, isScaled := impl.ScaleLoads(f, 0.3)
	text := fmt.Sprintln(impl.ValidFeeder(f), impl.SameFeeder(f, f), depth, isDepth, customers, isSum,
		feederText(next), isNext, feederText(scaled), isScaled)
	for _, bus := range append(absentBuses(f), 0, 1, 2, 3) {
		text += tellBus(f, bus)
	}
	for _, b := range f.Buses {
		text += phasesText(impl.DropOf(b, f.Source)) + phasesText(impl.LoadCurrentOf(b, f.Source))
	}
	return text
}

// Promise 1: the functions of feeders return for all arguments, equal results for equal ones.
func TestFeedersReturn(t *testing.T) {
	for _, f := range wrongFeeders() {
		expectTwice(t, "a feeder that is not valid", f, tellFeeder)
	}
	for _, p := range oddPhases() {
		f := treeOf([]int64{-1, 0, 1, 0})
		f.Source, f.Buses[1].Load = p, p
		f.Buses[2].Own, f.Buses[2].Shared, f.Buses[3].Load = p.A, p.C, impl.Phases{B: p.A}
		expectTwice(t, "a feeder with odd numbers", f, tellFeeder)
		copied := impl.Feeder{Source: f.Source, Buses: slices.Clone(f.Buses)}
		expect(t, "a copy of a feeder", tellFeeder(copied), tellFeeder(f))
		expectTwice(t, "phases", p, func(p impl.Phases) string {
			return phasesText(impl.EvenPhases(p.A)) + phasesText(impl.NextPhases(p)) + phasesText(impl.ScalePhases(p, 3))
		})
	}
}

// Promise 1: functions of feeders change neither the buses nor what is behind them.
func TestFeedersStay(t *testing.T) {
	for _, parents := range someParents() {
		f := treeOf(parents)
		whole, part := guarded(f.Buses, impl.Bus{Parent: 77, Own: 7, Kind: 1})
		f.Buses = part
		before := feederText(impl.Feeder{Buses: whole})
		tellFeeder(f)
		for i := range parents {
			tellBus(f, int64(i))
			tellBus(treeOf(parents), int64(i))
			impl.GraftFeeder(treeOf([]int64{-1}), 0, f, 1, 2)
			impl.GraftFeeder(f, int64(i), treeOf([]int64{-1, 0}), 1, 2)
			impl.SameFeeder(treeOf(parents), f)
		}
		expect(t, "buses behind all functions", feederText(impl.Feeder{Buses: whole}), before)
	}
}

// spoil changes all buses of a feeder.
func spoil(f impl.Feeder) {
	whole := f.Buses[:cap(f.Buses)]
	for i := range whole {
		whole[i] = impl.Bus{Parent: 55}
	}
}

// Promise 1: feeders and lists that are returned are new each time.
func TestFeedersAreNew(t *testing.T) {
	f, part := treeOf([]int64{-1, 0, 1, 1}), treeOf([]int64{-1, 0})
	before, partBefore, told := feederText(f), feederText(part), tellFeeder(f)
	calls := []func() (impl.Feeder, bool){
		func() (impl.Feeder, bool) { return impl.NextFeeder(f) },
		func() (impl.Feeder, bool) { return impl.ScaleLoads(f, 1) },
		func() (impl.Feeder, bool) { return impl.CutFeeder(f, 3) },
		func() (impl.Feeder, bool) { return impl.PartFeeder(f, 0, f.Source) },
		func() (impl.Feeder, bool) { return impl.GraftFeeder(f, 0, part, 1, 2) },
	}
	for i, call := range calls {
		result, ok := call()
		if !ok {
			t.Errorf("call %d: fails", i)
		}
		spoil(result)
	}
	expect(t, "the feeder", feederText(f), before)
	expect(t, "the part", feederText(part), partBefore)

	path, _ := impl.PathTo(f, 3)
	below, _ := impl.BusesBelow(f, 0)
	children, _ := impl.ChildrenOf(f, 1)
	customers, _ := impl.CustomersBelow(f)
	for _, list := range [][]int64{path, below, children, customers} {
		for i := range list {
			list[i] = 99
		}
	}
	expect(t, "results behind changed ones", tellFeeder(f), told)
}

// checkBusFails calls all functions of a feeder and a bus that must fail.
func checkBusFails(t *testing.T, what string, f impl.Feeder, bus int64) {
	t.Helper()
	path, ok := impl.PathTo(f, bus)
	expectFailure(t, "PathTo with "+what, len(path) == 0, ok)
	below, ok := impl.BusesBelow(f, bus)
	expectFailure(t, "BusesBelow with "+what, len(below) == 0, ok)
	children, ok := impl.ChildrenOf(f, bus)
	expectFailure(t, "ChildrenOf with "+what, len(children) == 0, ok)
	own, shared, ok := impl.PathImpedance(f, bus)
	expectFailure(t, "PathImpedance with "+what, partsOf(own) == partsOf(0) && partsOf(shared) == partsOf(0), ok)
	cut, ok := impl.CutFeeder(f, bus)
	expectNoFeeder(t, "CutFeeder with "+what, cut, ok)
	part, ok := impl.PartFeeder(f, bus, otherSource)
	expectNoFeeder(t, "PartFeeder with "+what, part, ok)
	graft, ok := impl.GraftFeeder(f, bus, treeOf([]int64{-1}), 1, 2)
	expectNoFeeder(t, "GraftFeeder with "+what, graft, ok)
}

// Promise 1: feeders that are not valid make functions fail with zero values.
func TestWrongFeedersFail(t *testing.T) {
	for what, f := range wrongFeeders() {
		for bus := int64(-1); bus < 5; bus++ {
			checkBusFails(t, what, f, bus)
		}
		depth, ok := impl.DepthOf(f)
		expectFailure(t, "DepthOf with "+what, depth == 0, ok)
		customers, ok := impl.CustomersBelow(f)
		expectFailure(t, "CustomersBelow with "+what, len(customers) == 0, ok)
		next, ok := impl.NextFeeder(f)
		expectNoFeeder(t, "NextFeeder with "+what, next, ok)
		scaled, ok := impl.ScaleLoads(f, 2)
		expectNoFeeder(t, "ScaleLoads with "+what, scaled, ok)
		graft, ok := impl.GraftFeeder(treeOf([]int64{-1, 0}), 0, f, 1, 2)
		expectNoFeeder(t, "GraftFeeder of a part with "+what, graft, ok)
	}
}

// Promise 1: buses that are not there make functions fail with zero values.
func TestAbsentBusesFail(t *testing.T) {
	for _, parents := range [][]int64{{-1}, {-1, 0, 0, 1}, rowParents(16)} {
		f := treeOf(parents)
		for _, bus := range absentBuses(f) {
			checkBusFails(t, fmt.Sprint("the bus ", bus), f, bus)
		}
	}
}
