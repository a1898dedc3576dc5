package tests

import (
	"cmp"
	"fmt"
	"math"
	"math/rand/v2"
	"slices"
	"strings"
	"testing"

	"loop.example/g01212/impl"
)

// greatestMost is the greatest Most of a tie: all customers of 16 buses.
const greatestMost = 16000000

// tieText tells all fields of a tie.
func tieText(tie impl.Tie) string {
	return fmt.Sprint(tie.A, " ", tie.B, " ", tie.Most, " ", partsOf(tie.Own), " ", partsOf(tie.Shared))
}

// gridText tells all fields of a grid.
func gridText(g impl.Grid) string {
	lines := []string{feederText(g.Feeder)}
	for _, tie := range g.Ties {
		lines = append(lines, tieText(tie))
	}
	return strings.Join(lines, "; ")
}

// tieAt returns a tie between two buses that can feed all customers, with
// impedances by which its index is told.
func tieAt(index int, a, b int64) impl.Tie {
	n := float32(index)
	return impl.Tie{A: a, B: b, Own: complex(100+n, -1), Shared: complex(-1, 200+n), Most: greatestMost}
}

// gridOf returns a grid with ties between some buses.
func gridOf(parents []int64, ends ...[2]int64) impl.Grid {
	g := impl.Grid{Feeder: treeOf(parents)}
	for i, end := range ends {
		g.Ties = append(g.Ties, tieAt(i, end[0], end[1]))
	}
	return g
}

// withMost returns a grid whose ties have other limits.
func withMost(g impl.Grid, most ...int64) impl.Grid {
	ties := slices.Clone(g.Ties)
	for i := range ties {
		ties[i].Most = most[i]
	}
	return impl.Grid{Feeder: g.Feeder, Ties: ties}
}

// withCustomers returns a grid whose buses have other customers.
func withCustomers(g impl.Grid, customers ...int64) impl.Grid {
	buses := slices.Clone(g.Feeder.Buses)
	for i := range buses {
		buses[i].Customers = customers[i]
	}
	return impl.Grid{Feeder: impl.Feeder{Source: g.Feeder.Source, Buses: buses}, Ties: g.Ties}
}

// variedGrid returns one of many grids with the given parents, which has at least two buses.
func variedGrid(parents []int64, n int) impl.Grid {
	source := rand.New(rand.NewPCG(uint64(n), uint64(len(parents))))
	g := impl.Grid{Feeder: treeOf(parents)}
	for i := range g.Feeder.Buses {
		if n%3 > 0 {
			g.Feeder.Buses[i].Customers = source.Int64N(int64(2 * (n % 3)))
		}
	}
	for index := range (n + 3) % 7 {
		a := source.Int64N(int64(len(parents)))
		b := (a + 1 + source.Int64N(int64(len(parents))-1)) % int64(len(parents))
		tie := tieAt(index, a, b)
		if source.IntN(3) > 0 {
			tie.Most = source.Int64N(2 + int64(n%3)*int64(len(parents)))
		}
		g.Ties = append(g.Ties, tie)
	}
	return g
}

// someGrids are grids with all trees of two to five buses, some at the limit of
// buses, and some with many parts behind one bus, with none to six ties, many and
// few customers, and all kinds of limits.
func someGrids() []impl.Grid {
	var grids []impl.Grid
	for at, parents := range deviceTrees()[1:] {
		for n := range 14 {
			grids = append(grids, variedGrid(parents, 14*at+n))
		}
	}
	for _, parents := range [][]int64{{-1, 0, 1, 1, 1, 0}, {-1, 0, 1, 1, 1, 2, 0, 3}, {-1, 0, 1, 1, 1, 1, 1}} {
		for n := range 50 {
			grids = append(grids, variedGrid(parents, n))
		}
	}
	return grids
}

// hangWith returns the set of the buses that hang together with one by the
// lines that are left and by closed ties, reached from it step by step.
func hangWith(g impl.Grid, failed int64, closed []int64, from int64) []int64 {
	var pairs [][2]int64
	for i, b := range g.Feeder.Buses {
		if i > 0 && int64(i) != failed && b.Parent != failed {
			pairs = append(pairs, [2]int64{int64(i), b.Parent})
		}
	}
	for _, index := range closed {
		pairs = append(pairs, [2]int64{g.Ties[index].A, g.Ties[index].B})
	}
	reached := make([]bool, len(g.Feeder.Buses))
	reached[from] = true
	for range g.Feeder.Buses {
		for _, p := range pairs {
			isAny := reached[p[0]] || reached[p[1]]
			reached[p[0]], reached[p[1]] = isAny, isAny
		}
	}
	var set []int64
	for i, isReached := range reached {
		if isReached {
			set = append(set, int64(i))
		}
	}
	return set
}

// closesLoop reports whether a closed tie has both ends in buses that hang
// together by the lines that are left and the closed ties before it.
func closesLoop(g impl.Grid, failed int64, closed []int64) bool {
	for i, index := range closed {
		if slices.Contains(hangWith(g, failed, closed[:i], g.Ties[index].A), g.Ties[index].B) {
			return true
		}
	}
	return false
}

// sumAt returns the sum of the customers of some buses.
func sumAt(g impl.Grid, buses []int64) int64 {
	sum := int64(0)
	for _, bus := range buses {
		sum += g.Feeder.Buses[bus].Customers
	}
	return sum
}

// fedOver returns the customers of the buses that are lit by closed ties, and not without one of them.
func fedOver(g impl.Grid, failed int64, closed []int64) []int64 {
	var sums []int64
	for _, left := range closed {
		others := slices.DeleteFunc(slices.Clone(closed), func(index int64) bool { return index == left })
		without := hangWith(g, failed, others, 0)
		lost := slices.DeleteFunc(hangWith(g, failed, closed, 0), func(bus int64) bool { return slices.Contains(without, bus) })
		sums = append(sums, sumAt(g, lost))
	}
	return sums
}

// isGood reports whether closed ties have no loop, and feed at most as many customers as they may.
func isGood(g impl.Grid, failed int64, closed []int64) bool {
	if closesLoop(g, failed, closed) {
		return false
	}
	for i, sum := range fedOver(g, failed, closed) {
		if sum > g.Ties[closed[i]].Most {
			return false
		}
	}
	return true
}

// closedSets returns all sets of ties that can be closed if a bus fails:
// shorter ones first, and then in ascending order.
func closedSets(g impl.Grid, failed int64) [][]int64 {
	sets := [][]int64{nil}
	for index, tie := range g.Ties {
		if tie.A == failed || tie.B == failed {
			continue
		}
		for _, set := range slices.Clone(sets) {
			sets = append(sets, append(slices.Clone(set), int64(index)))
		}
	}
	slices.SortFunc(sets, func(a, b []int64) int { return cmp.Or(len(a)-len(b), slices.Compare(a, b)) })
	return sets
}

// eachClosed calls a function for each bus that fails in some grids, with each
// set of closed ties, and with a text that tells these.
func eachClosed(check func(what string, g impl.Grid, bus int64, closed []int64)) {
	for _, g := range someGrids() {
		text := gridText(g)
		for bus := int64(1); bus < int64(len(g.Feeder.Buses)); bus++ {
			for _, closed := range closedSets(g, bus) {
				check(fmt.Sprint(bus, " with ", closed, " in ", text), g, bus, closed)
			}
		}
	}
}

// bestOf returns the first one of all good sets that light the most customers, and how many these are.
func bestOf(g impl.Grid, failed int64) ([]int64, int64) {
	var best []int64
	most := int64(-1)
	for _, closed := range closedSets(g, failed) {
		if lit := sumAt(g, hangWith(g, failed, closed, 0)); lit > most && isGood(g, failed, closed) {
			best, most = closed, lit
		}
	}
	return best, most
}

// wrongTies are ties that a feeder with so many buses cannot have, each for one reason.
func wrongTies(count int) map[string]impl.Tie {
	good, wrong := tieAt(0, 0, 1), map[string]impl.Tie{}
	for bus := range int64(count) {
		wrong[fmt.Sprint("both ends at ", bus)] = tieAt(0, bus, bus)
	}
	for _, bus := range absentBuses(treeOf(rowParents(count))) {
		wrong[fmt.Sprint("A at ", bus)] = tieAt(0, bus, 1)
		wrong[fmt.Sprint("B at ", bus)] = tieAt(0, 0, bus)
		wrong[fmt.Sprint("both at ", bus)] = tieAt(0, bus, bus)
	}
	for _, most := range []int64{-1, -2, greatestMost + 1, greatestMost + 2, math.MinInt64, math.MaxInt64} {
		good.Most = most
		wrong[fmt.Sprint("Most of ", most)] = good
	}
	return wrong
}

// wrongGrids are grids that are not valid, each for one reason.
func wrongGrids() map[string]impl.Grid {
	wrong := map[string]impl.Grid{}
	for what, f := range wrongFeeders() {
		wrong[what] = impl.Grid{Feeder: f}
		wrong[what+" and a tie"] = impl.Grid{Feeder: f, Ties: []impl.Tie{tieAt(0, 0, 1)}}
	}
	for _, count := range []int{7, 8, 64, 1000} {
		wrong[fmt.Sprint(count, " ties")] = gridOf(rowParents(4), repeated([2]int64{0, 3}, count)...)
	}
	for what, tie := range wrongTies(4) {
		for at := range 6 {
			g := gridOf(rowParents(4), repeated([2]int64{0, 3}, 6)...)
			g.Ties[at] = tie
			wrong[fmt.Sprint(what, " in the tie ", at)] = g
		}
		wrong[what] = impl.Grid{Feeder: treeOf(rowParents(4)), Ties: []impl.Tie{tie}}
	}
	wrong["a tie of the root alone"] = gridOf([]int64{-1}, [2]int64{0, 0})
	return wrong
}

// wrongClosed are lists that are no sets of the indices of so many ties, which are at least 2.
func wrongClosed(count int) [][]int64 {
	last := int64(count) - 1
	return [][]int64{
		{0, 0}, {last, last}, {1, 0}, {last, 0}, {0, last, last}, {0, 1, 0}, {0, 1, 1, 2},
		{-1}, {-1, 0}, {last + 1}, {0, last + 1}, {0, 1, 64}, {math.MinInt64}, {math.MaxInt64}, {math.MinInt64, 0}, {0, math.MaxInt64},
		{4294967296}, {-4294967296, 0}, repeated(int64(0), 1000), allBuses(count + 1), allBuses(1000),
	}
}

// restored returns RestoreAfter, which must not fail.
func restored(t *testing.T, g impl.Grid, bus int64) ([]int64, int64) {
	t.Helper()
	plan, lit, ok := impl.RestoreAfter(g, bus)
	if !ok {
		t.Fatalf("RestoreAfter %d in %s: fails", bus, gridText(g))
	}
	return plan, lit
}

// expectRestored reports another plan or another number of customers than those that are restored.
func expectRestored(t *testing.T, what string, g impl.Grid, bus int64, wantPlan []int64, wantLit int64) {
	t.Helper()
	plan, lit := restored(t, g, bus)
	expect(t, fmt.Sprint("RestoreAfter ", bus, " with ", what), fmt.Sprint(setText(plan), " ", lit), fmt.Sprint(setText(wantPlan), " ", wantLit))
}

// checkAfterFails calls all functions of a failing bus that must fail whatever ties are closed.
func checkAfterFails(t *testing.T, what string, g impl.Grid, bus int64) {
	t.Helper()
	dark, ok := impl.DarkAfter(g, bus)
	expectFailure(t, "DarkAfter with "+what, len(dark) == 0, ok)
	parts, ok := impl.PartsAfter(g, bus)
	expectFailure(t, "PartsAfter with "+what, len(parts) == 0, ok)
	plan, sum, ok := impl.RestoreAfter(g, bus)
	expectFailure(t, "RestoreAfter with "+what, len(plan) == 0 && sum == 0, ok)
	for _, closed := range [][]int64{nil, {}, {0}, {0, 1}} {
		checkClosedFails(t, what, g, bus, closed)
	}
}

// checkClosedFails calls all functions of closed ties that must fail.
func checkClosedFails(t *testing.T, what string, g impl.Grid, bus int64, closed []int64) {
	t.Helper()
	what = fmt.Sprint("after ", bus, " with ", what, ", ", closed)
	lit, ok := impl.LitAfter(g, bus, closed)
	expectFailure(t, "LitAfter "+what, len(lit) == 0, ok)
	isLoop, ok := impl.HasLoop(g, bus, closed)
	expectFailure(t, "HasLoop "+what, !isLoop, ok)
	sum, ok := impl.CustomersLit(g, bus, closed)
	expectFailure(t, "CustomersLit "+what, sum == 0, ok)
	checkPlanFails(t, what, g, bus, closed)
	behind, ok := impl.BehindTies(g, bus, closed)
	expectFailure(t, "BehindTies "+what, len(behind) == 0, ok)
}

// checkPlanFails calls all functions of plans that must fail.
func checkPlanFails(t *testing.T, what string, g impl.Grid, bus int64, closed []int64) {
	t.Helper()
	if impl.IsPlan(g, bus, closed) {
		t.Errorf("IsPlan %s: true", what)
	}
	f, list, ok := impl.FeederAfter(g, bus, closed)
	expectNoFeeder(t, "FeederAfter "+what, f, ok)
	expectFailure(t, "FeederAfter "+what, len(list) == 0, ok)
}
