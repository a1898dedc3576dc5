package tests

import (
	"fmt"
	"slices"
	"testing"

	"loop.example/g01212/impl"
)

// tellClosed tells what the functions of a failing bus and closed ties return.
func tellClosed(g impl.Grid, bus int64, closed []int64) string {
	lit, isLit := impl.LitAfter(g, bus, closed)
	isLoop, isTold := impl.HasLoop(g, bus, closed)
	behind, isFed := impl.BehindTies(g, bus, closed)
	sum, isSum := impl.CustomersLit(g, bus, closed)
	f, list, isFeeder := impl.FeederAfter(g, bus, closed)
	return fmt.Sprintln(lit, isLit, isLoop, isTold, behind, isFed, impl.IsPlan(g, bus, closed), sum, isSum, feederText(f), list, isFeeder)
}

// tellGrid tells what the functions of a grid return.
func tellGrid(g impl.Grid) string {
	more, isMore := impl.AddTie(g, tieAt(6, 0, 1))
	impact, isImpact := impl.ImpactOf(g)
	worst, most, isWorst := impl.WorstBus(g)
	text := fmt.Sprintln(impl.ValidGrid(g), impl.SameGrid(g, g), gridText(more), isMore, impact, isImpact, worst, most, isWorst)
	for _, bus := range append(absentBuses(g.Feeder), 0, 1, 2, 3) {
		dark, isDark := impl.DarkAfter(g, bus)
		parts, isParts := impl.PartsAfter(g, bus)
		plan, lit, isPlan := impl.RestoreAfter(g, bus)
		text += fmt.Sprintln(dark, isDark, parts, isParts, plan, lit, isPlan)
		for _, closed := range [][]int64{nil, {}, {0}, {1}, {0, 1}, {1, 0}, {1, 1}, {2, 4}, plan} {
			text += tellClosed(g, bus, closed)
		}
	}
	return text
}

// copyOf returns a grid with lists of its own.
func copyOf(g impl.Grid) impl.Grid {
	return impl.Grid{Feeder: impl.Feeder{Source: g.Feeder.Source, Buses: slices.Clone(g.Feeder.Buses)}, Ties: slices.Clone(g.Ties)}
}

// Promise 1: the functions of grids return for all arguments, equal results for equal ones.
func TestGridsReturn(t *testing.T) {
	for what, g := range wrongGrids() {
		expectTwice(t, what, g, tellGrid)
	}
	for i, g := range someGrids() {
		if i%5 == 0 {
			expectTwice(t, "a grid", g, tellGrid)
			expect(t, "a copy of a grid", tellGrid(copyOf(g)), tellGrid(g))
		}
	}
	for _, g := range otherGrids() {
		expect(t, "a copy of another grid", tellGrid(copyOf(g)), tellGrid(g))
	}
	full := gridOf(rowParents(16), [2]int64{0, 15}, [2]int64{3, 9}, [2]int64{7, 2}, [2]int64{11, 13}, [2]int64{5, 4}, [2]int64{14, 0})
	expectTwice(t, "a grid at the limits", full, tellGrid)
	for _, closed := range wrongClosed(6) {
		for bus := int64(-1); bus < 17; bus++ {
			expect(t, "a list that is no set", tellClosed(copyOf(full), bus, slices.Clone(closed)), tellClosed(full, bus, closed))
		}
	}
}

// Promise 9: loads, lines and sources do not count for plans.
func TestPlansInOddFeeders(t *testing.T) {
	ends := [][2]int64{{0, 2}, {3, 4}, {2, 3}, {1, 4}}
	want := gridOf([]int64{-1, 0, 1, 1, 0}, ends...)
	for _, f := range oddFeeders() {
		g := impl.Grid{Feeder: f, Ties: want.Ties}
		for bus := int64(1); bus < 5; bus++ {
			plan, lit := restored(t, want, bus)
			expectRestored(t, "an odd feeder", g, bus, plan, lit)
			checkFeederOf(t, "an odd feeder", g, bus, plan)
		}
	}
}

// Promise 1: functions of grids change neither buses nor ties nor lists, nor what is behind them.
func TestGridsStay(t *testing.T) {
	for i, g := range someGrids() {
		if i%3 > 0 {
			continue
		}
		wholeBuses, buses := guarded(g.Feeder.Buses, impl.Bus{Parent: 77, Own: 7, Kind: 1})
		wholeTies, ties := guarded(g.Ties, impl.Tie{A: 77, B: 7})
		guardedGrid := impl.Grid{Feeder: impl.Feeder{Source: g.Feeder.Source, Buses: buses}, Ties: ties}
		tell := func() string {
			return gridText(impl.Grid{Feeder: impl.Feeder{Source: g.Feeder.Source, Buses: wholeBuses}, Ties: wholeTies})
		}
		before := tell()
		tellGrid(guardedGrid)
		impl.SameGrid(g, guardedGrid)
		impl.SameGrid(guardedGrid, g)
		for bus := int64(1); bus < int64(len(buses)); bus++ {
			for _, closed := range append(closedSets(g, bus), wrongClosed(2)...) {
				whole, list := guarded(closed, 77)
				listBefore := fmt.Sprint(whole)
				tellClosed(guardedGrid, bus, list)
				expect(t, "a list behind all functions", fmt.Sprint(whole), listBefore)
			}
			impl.RestoreAfter(guardedGrid, bus)
		}
		expect(t, "a grid behind all functions", tell(), before)
	}
}

// spoilLists changes all numbers of lists, and those behind them.
func spoilLists(lists ...[]int64) {
	for _, list := range lists {
		whole := list[:cap(list)]
		for i := range whole {
			whole[i] = 99
		}
	}
}

// Promise 1: grids, feeders and lists that are returned are new each time, and share no memory among each other.
func TestGridsAreNew(t *testing.T) {
	g := gridOf([]int64{-1, 0, 1, 1, 2, 0}, [2]int64{0, 2}, [2]int64{3, 4}, [2]int64{5, 3})
	before := gridText(g) + tellGrid(g)
	more, _ := impl.AddTie(g, tieAt(3, 0, 4))
	spoil(more.Feeder)
	clear(more.Ties[:cap(more.Ties)])
	closed := []int64{0, 1}
	f, indices, _ := impl.FeederAfter(g, 1, closed)
	spoil(f)
	dark, _ := impl.DarkAfter(g, 1)
	lit, _ := impl.LitAfter(g, 1, closed)
	nothing, _ := impl.LitAfter(g, 1, nil)
	behind, _ := impl.BehindTies(g, 1, closed)
	plan, _ := restored(t, g, 1)
	impact, _ := impl.ImpactOf(g)
	spoilLists(indices, dark, lit, nothing, behind, plan, impact)
	expectList(t, "closed ties", closed, true, []int64{0, 1})
	parts, _ := impl.PartsAfter(g, 1)
	for i, want := range [][]int64{{2, 4}, {3}} {
		expectList(t, "a part behind changed ones", parts[i], true, want)
		spoilLists(parts[i])
	}
	expect(t, "all behind changed results", gridText(g)+tellGrid(g), before)
}
