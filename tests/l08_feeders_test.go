package tests

import (
	"fmt"
	"slices"
	"testing"

	"loop.example/g01212/impl"
)

// wayTo returns the rank of a way between two buses of a grid, and its
// impedances: lines rank by the buses they lead to, and ties behind them by their order.
func wayTo(g impl.Grid, closed []int64, from, to int64) (rank int64, own, shared complex64) {
	buses := g.Feeder.Buses
	switch {
	case buses[to].Parent == from:
		return to, buses[to].Own, buses[to].Shared
	case buses[from].Parent == to:
		return to, buses[from].Own, buses[from].Shared
	}
	for _, index := range closed {
		tie := g.Ties[index]
		if tie.A == from && tie.B == to || tie.A == to && tie.B == from {
			return 16 + index, tie.Own, tie.Shared
		}
	}
	return -1, 0, 0
}

// checkFeederOf compares a feeder of a plan with the grid: it has all lit buses,
// each behind a neighbour of it, in the order in which these add them.
func checkFeederOf(t *testing.T, what string, g impl.Grid, bus int64, closed []int64) {
	t.Helper()
	f, list, ok := impl.FeederAfter(g, bus, closed)
	if !ok || !impl.ValidFeeder(f) || len(list) != len(f.Buses) || len(list) == 0 {
		t.Fatalf("FeederAfter %s: fails, or is not valid", what)
	}
	expectList(t, "buses of "+what, slices.Sorted(slices.Values(list)), true, hangWith(g, bus, closed, 0))
	expectPhases(t, "Source of "+what, f.Source, g.Feeder.Source)
	expect(t, "root of "+what, fmt.Sprint(list[0])+busText(f.Buses[0]), "0"+busText(g.Feeder.Buses[0]))
	lastParent, lastRank := int64(0), int64(-1)
	for i := 1; i < len(list); i++ {
		b := f.Buses[i]
		rank, own, shared := wayTo(g, closed, list[b.Parent], list[i])
		want := g.Feeder.Buses[list[i]]
		want.Parent, want.Own, want.Shared = b.Parent, own, shared
		expect(t, fmt.Sprint("bus ", i, " of ", what), busText(b), busText(want))
		if rank < 0 || b.Parent < lastParent || b.Parent == lastParent && rank <= lastRank {
			t.Errorf("FeederAfter %s: %d stands at %d", what, list[i], i)
		}
		lastParent, lastRank = b.Parent, rank
	}
}

// Promise 9: the feeder of each plan of many grids has the lit buses, as the grid and the ties tell.
func TestFeedersOfPlans(t *testing.T) {
	eachClosed(func(what string, g impl.Grid, bus int64, closed []int64) {
		if isGood(g, bus, closed) {
			checkFeederOf(t, what, g, bus, closed)
		} else {
			checkPlanFails(t, what, g, bus, closed)
		}
	})
}

// Promise 9: without ties, the feeder is the one without the dark part, if its buses stand in that order already.
func TestFeedersWithoutTies(t *testing.T) {
	for _, parents := range someParents() {
		if !slices.IsSorted(parents) {
			continue
		}
		g := gridOf(parents, repeated([2]int64{0, int64(len(parents)) - 1}, 3*(len(parents)%2))...)
		for bus := 1; bus < len(parents); bus++ {
			want, _ := impl.CutFeeder(g.Feeder, int64(bus))
			f, list, ok := impl.FeederAfter(g, int64(bus), nil)
			expectFeeder(t, fmt.Sprint("FeederAfter ", bus, " in ", parents), f, ok, want)
			expectList(t, "buses", list, ok, hangWith(g, int64(bus), nil, 0))
		}
	}
}

// Promise 9: buses stand in another order than in the grid, neighbours by lines ahead of those by ties.
func TestOrderOfFeeders(t *testing.T) {
	cases := []struct {
		what    string
		parents []int64
		ends    [][2]int64
		bus     int64
		list    []int64
		wantUp  []int64
	}{
		{"a row, backward", []int64{-1, 0, 1, 2, 3}, [][2]int64{{0, 4}}, 1, []int64{0, 4, 3, 2}, []int64{-1, 0, 1, 2}},
		{"a row from its middle", []int64{-1, 0, 1, 2, 3, 4}, [][2]int64{{3, 0}}, 1, []int64{0, 3, 2, 4, 5}, []int64{-1, 0, 1, 1, 3}},
		{"a tie to a lesser bus than a line", []int64{-1, 0, 1, 0}, [][2]int64{{2, 0}}, 1, []int64{0, 3, 2}, []int64{-1, 0, 0}},
		{"ties in their order, not that of buses", []int64{-1, 0, 1, 1, 1, 0}, [][2]int64{{0, 4}, {2, 0}, {0, 3}}, 1, []int64{0, 5, 4, 2, 3}, []int64{-1, 0, 0, 0, 0}},
		{"the parent among the children", []int64{-1, 0, 1, 2, 2, 2}, [][2]int64{{4, 0}}, 1, []int64{0, 4, 2, 3, 5}, []int64{-1, 0, 1, 2, 2}},
		{"one part behind the other", []int64{-1, 0, 1, 1, 3, 2}, [][2]int64{{4, 5}, {0, 5}}, 1, []int64{0, 5, 2, 4, 3}, []int64{-1, 0, 1, 1, 3}},
		{"by breadth", []int64{-1, 0, 0, 2, 1, 4, 5, 0}, [][2]int64{{3, 6}, {7, 3}}, 4, []int64{0, 1, 2, 7, 3, 6, 5}, []int64{-1, 0, 0, 0, 2, 4, 5}},
		{"dark parts that stay", []int64{-1, 0, 1, 1, 1}, [][2]int64{{2, 3}, {4, 0}}, 1, []int64{0, 4}, []int64{-1, 0}},
		{"the root alone", []int64{-1, 0, 1}, nil, 1, []int64{0}, []int64{-1}},
	}
	for _, c := range cases {
		g := gridOf(c.parents, c.ends...)
		closed := allBuses(len(c.ends))
		if c.what == "by breadth" {
			closed = closed[:1]
		}
		f, list, ok := impl.FeederAfter(g, c.bus, closed)
		expectList(t, "FeederAfter with "+c.what, list, ok, c.list)
		var parents []int64
		for _, b := range f.Buses {
			parents = append(parents, b.Parent)
		}
		expectList(t, "parents of "+c.what, parents, ok, c.wantUp)
		checkFeederOf(t, c.what, g, c.bus, closed)
	}
}

// Promise 9: lines that are fed the other way keep their impedances, and ties have theirs.
func TestImpedancesOfFeeders(t *testing.T) {
	g := gridOf([]int64{-1, 0, 1, 2}, [2]int64{3, 0})
	f, _, ok := impl.FeederAfter(g, 1, []int64{0})
	want := impl.Feeder{Source: g.Feeder.Source, Buses: slices.Clone(g.Feeder.Buses[:1])}
	first, second := g.Feeder.Buses[3], g.Feeder.Buses[2]
	first.Parent, first.Own, first.Shared = 0, complex(100, -1), complex(-1, 200)
	second.Parent, second.Own, second.Shared = 1, complex(4, 8), complex(-4, 1)
	want.Buses = append(want.Buses, first, second)
	expectFeeder(t, "FeederAfter", f, ok, want)
	for _, p := range oddPhases() {
		odd := changedTie(g, 0, func(tie *impl.Tie) { tie.Own, tie.Shared = p.A, p.B })
		odd.Feeder.Source, odd.Feeder.Buses = p, slices.Clone(g.Feeder.Buses)
		odd.Feeder.Buses[3].Own, odd.Feeder.Buses[3].Shared, odd.Feeder.Buses[2].Load = p.C, p.A, p
		checkFeederOf(t, "odd numbers", odd, 1, []int64{0})
		expectRestored(t, "odd numbers", odd, 1, []int64{0}, 13)
	}
}
