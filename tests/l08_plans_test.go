package tests

import (
	"fmt"
	"slices"
	"testing"

	"loop.example/g01212/impl"
)

// Promise 9: a plan has no loop and no tie that feeds too many customers, with all sets of closed ties of many grids.
func TestPlans(t *testing.T) {
	eachClosed(func(what string, g impl.Grid, bus int64, closed []int64) {
		behind, ok := impl.BehindTies(g, bus, closed)
		if closesLoop(g, bus, closed) {
			expectFailure(t, "BehindTies "+what, len(behind) == 0, ok)
		} else {
			expectList(t, "BehindTies "+what, behind, ok, fedOver(g, bus, closed))
		}
		if impl.IsPlan(g, bus, closed) != isGood(g, bus, closed) {
			t.Errorf("IsPlan %s: %v", what, !isGood(g, bus, closed))
		}
	})
}

// Promise 9: restoring closes no loop, and no other plan lights more; of several it is the one with the fewest ties, and then the least one.
func TestRestoreAfter(t *testing.T) {
	for _, g := range someGrids() {
		for bus := int64(1); bus < int64(len(g.Feeder.Buses)); bus++ {
			wantPlan, wantLit := bestOf(g, bus)
			expectRestored(t, gridText(g), g, bus, wantPlan, wantLit)
			checkRestored(t, g, bus)
		}
	}
}

// checkRestored compares the plan that restores with all other plans.
func checkRestored(t *testing.T, g impl.Grid, bus int64) {
	t.Helper()
	plan, lit := restored(t, g, bus)
	if isLoop, ok := impl.HasLoop(g, bus, plan); isLoop || !ok || !impl.IsPlan(g, bus, plan) {
		t.Errorf("RestoreAfter %d in %s: %v is no plan", bus, gridText(g), plan)
	}
	for _, other := range closedSets(g, bus) {
		sum, ok := impl.CustomersLit(g, bus, other)
		if !impl.IsPlan(g, bus, other) {
			continue
		}
		isLater := len(other) > len(plan) || len(other) == len(plan) && slices.Compare(other, plan) >= 0
		if !ok || sum > lit || sum == lit && !isLater {
			t.Errorf("RestoreAfter %d in %s: %v is better than %v", bus, gridText(g), other, plan)
		}
	}
}

// Promise 9: ties feed as many customers as Most, and not one more.
func TestLimitsOfTies(t *testing.T) {
	// 1 fails, and 2 with 4 customers and 3 with 8 are behind it.
	g := gridOf([]int64{-1, 0, 1, 2}, [2]int64{3, 0})
	cases := []struct {
		most int64
		good bool
	}{{0, false}, {1, false}, {11, false}, {12, true}, {13, true}, {greatestMost - 1, true}, {greatestMost, true}}
	for _, c := range cases {
		limited := withMost(g, c.most)
		if impl.IsPlan(limited, 1, []int64{0}) != c.good || !impl.IsPlan(limited, 1, nil) {
			t.Errorf("IsPlan with Most %d: %v", c.most, !c.good)
		}
		behind, ok := impl.BehindTies(limited, 1, []int64{0})
		expectList(t, "BehindTies", behind, ok, []int64{12})
		sum, ok := impl.CustomersLit(limited, 1, []int64{0})
		expect(t, "CustomersLit", fmt.Sprint(sum, ok), "13 true")
		if c.good {
			expectRestored(t, fmt.Sprint("Most ", c.most), limited, 1, []int64{0}, 13)
		} else {
			expectRestored(t, fmt.Sprint("Most ", c.most), limited, 1, nil, 1)
			checkPlanFails(t, fmt.Sprint("Most ", c.most), limited, 1, []int64{0})
		}
	}
	for _, most := range []int64{-1, greatestMost + 1} {
		checkAfterFails(t, fmt.Sprint("Most ", most), withMost(g, most), 1)
	}
}

// Promise 9: a tie feeds no more customers than those of 14 buses with MaxCustomers each.
func TestGreatestLimits(t *testing.T) {
	g := withCustomers(gridOf(rowParents(16), [2]int64{0, 15}), repeated(int64(1000000), 16)...)
	expectRestored(t, "all customers", g, 1, []int64{0}, 15000000)
	expectRestored(t, "all customers", withMost(g, 14000000), 1, []int64{0}, 15000000)
	expectRestored(t, "all customers but one", withMost(g, 13999999), 1, nil, 1000000)
	expectRestored(t, "all customers but one", withMost(g, 13999999), 2, []int64{0}, 15000000)
	expectRestored(t, "Most of 0", withMost(g, 0), 8, nil, 8000000)
}

// Promise 9: parts are lit through two ties, one behind the other, of which the first one feeds both.
func TestTiesBehindTies(t *testing.T) {
	// 1 fails, behind which there are 2 with 4 customers and 3 with 8.
	parents := []int64{-1, 0, 1, 1}
	for _, ends := range [][][2]int64{{{0, 2}, {2, 3}}, {{2, 0}, {3, 2}}} {
		g := gridOf(parents, ends...)
		cases := []struct {
			closed []int64
			behind []int64
			lit    int64
		}{{nil, nil, 1}, {[]int64{0}, []int64{4}, 5}, {[]int64{1}, []int64{0}, 1}, {[]int64{0, 1}, []int64{12, 8}, 13}}
		for _, c := range cases {
			behind, ok := impl.BehindTies(g, 1, c.closed)
			expectList(t, fmt.Sprint("BehindTies ", c.closed), behind, ok, c.behind)
			sum, ok := impl.CustomersLit(g, 1, c.closed)
			expect(t, fmt.Sprint("CustomersLit ", c.closed), fmt.Sprint(sum, ok), fmt.Sprint(c.lit, true))
		}
		expectRestored(t, "two ties", g, 1, []int64{0, 1}, 13)
		expectRestored(t, "12 and 8", withMost(g, 12, 8), 1, []int64{0, 1}, 13)
		expectRestored(t, "11 and 8", withMost(g, 11, 8), 1, []int64{0}, 5)
		expectRestored(t, "12 and 7", withMost(g, 12, 7), 1, []int64{0}, 5)
		expectRestored(t, "3 and 8", withMost(g, 3, 8), 1, nil, 1)
	}
	turned := gridOf(parents, [2]int64{2, 3}, [2]int64{2, 0})
	behind, ok := impl.BehindTies(turned, 1, []int64{0, 1})
	expectList(t, "BehindTies in another order", behind, ok, []int64{8, 12})
	expectRestored(t, "another order", withMost(turned, 8, 12), 1, []int64{0, 1}, 13)
	expectRestored(t, "another order", withMost(turned, 12, 8), 1, []int64{1}, 5)
}

// Promise 9: of plans that light as many customers the one with the fewest ties restores, and of these the least one.
func TestEqualPlans(t *testing.T) {
	// 1 fails, behind which there are 2 with 4 customers and 3 with 8.
	parents := []int64{-1, 0, 1, 1}
	cases := []struct {
		what      string
		ends      [][2]int64
		most      []int64
		customers []int64
		plan      []int64
		lit       int64
	}{
		{"no ties", nil, nil, []int64{1, 2, 4, 8}, nil, 1},
		{"a tie twice", [][2]int64{{0, 2}, {0, 2}}, []int64{9, 9}, []int64{1, 2, 4, 8}, []int64{0}, 5},
		{"a tie twice, of which one is too small", [][2]int64{{0, 2}, {0, 2}}, []int64{3, 9}, []int64{1, 2, 4, 8}, []int64{1}, 5},
		{"the greater part", [][2]int64{{0, 2}, {0, 3}, {2, 3}}, []int64{5, 8, 3}, []int64{1, 2, 4, 8}, []int64{0, 1}, 13},
		{"two ties but no loop", [][2]int64{{0, 2}, {0, 3}, {2, 3}}, []int64{12, 12, 12}, []int64{1, 2, 4, 8}, []int64{0, 1}, 13},
		{"not through the small one", [][2]int64{{0, 2}, {2, 3}, {0, 3}}, []int64{11, 12, 12}, []int64{1, 2, 4, 8}, []int64{0, 2}, 13},
		{"the least one, not the first binary number", [][2]int64{{0, 2}, {0, 2}, {2, 3}, {0, 3}}, []int64{4, 12, 12, 12}, []int64{1, 2, 4, 8}, []int64{0, 3}, 13},
		{"the later one alone lights more", [][2]int64{{0, 2}, {2, 3}, {0, 3}}, []int64{4, 0, 8}, []int64{1, 2, 4, 8}, []int64{0, 2}, 13},
		{"one of two parts", [][2]int64{{0, 2}, {2, 3}}, []int64{4, 9}, []int64{1, 2, 4, 8}, []int64{0}, 5},
		{"fewer ties", [][2]int64{{0, 2}, {0, 3}}, []int64{9, 9}, []int64{1, 2, 0, 8}, []int64{1}, 9},
		{"through a bus without customers", [][2]int64{{0, 2}, {2, 3}}, []int64{9, 9}, []int64{1, 2, 0, 8}, []int64{0, 1}, 9},
		{"a bus without customers behind", [][2]int64{{0, 2}, {2, 3}}, []int64{9, 9}, []int64{1, 2, 4, 0}, []int64{0}, 5},
		{"no customers", [][2]int64{{0, 2}, {0, 3}}, []int64{9, 9}, []int64{0, 0, 0, 0}, nil, 0},
		{"no dark customers", [][2]int64{{0, 2}, {0, 3}}, []int64{0, 9}, []int64{7, 5, 0, 0}, nil, 7},
		{"no customers over a tie of none", [][2]int64{{0, 2}, {2, 3}, {0, 3}}, []int64{0, 9, 9}, []int64{1, 2, 0, 8}, []int64{2}, 9},
		{"one part less", [][2]int64{{0, 2}, {0, 3}}, []int64{4, 7}, []int64{1, 2, 4, 8}, []int64{0}, 5},
		{"six ties", [][2]int64{{2, 3}, {2, 3}, {3, 2}, {0, 3}, {0, 3}, {3, 0}}, []int64{9, 3, 4, 11, 12, 12}, []int64{1, 2, 4, 8}, []int64{0, 4}, 13},
		{"the last two of six ties", [][2]int64{{2, 3}, {2, 3}, {2, 0}, {0, 3}, {0, 3}, {2, 0}}, []int64{3, 3, 3, 7, 8, 4}, []int64{1, 2, 4, 8}, []int64{4, 5}, 13},
	}
	for _, c := range cases {
		g := withCustomers(withMost(gridOf(parents, c.ends...), c.most...), c.customers...)
		expectRestored(t, c.what, g, 1, c.plan, c.lit)
		sum, ok := impl.CustomersLit(g, 1, c.plan)
		expect(t, "CustomersLit with "+c.what, fmt.Sprint(sum, ok), fmt.Sprint(c.lit, true))
	}
}

// Promise 9: all six ties are closed where each of them lights more, in a star and in a row.
func TestManyTies(t *testing.T) {
	parents := []int64{-1, 0, 1, 1, 1, 1, 1, 1, 2, 3, 4, 5, 6, 7, 0, 0}
	star := gridOf(parents, [2]int64{0, 8}, [2]int64{9, 0}, [2]int64{14, 4}, [2]int64{5, 15}, [2]int64{0, 6}, [2]int64{0, 7})
	lit := sumAt(star, allBuses(16)) - 2
	expectRestored(t, "a star", star, 1, []int64{0, 1, 2, 3, 4, 5}, lit)
	row := gridOf(parents, [2]int64{0, 2}, [2]int64{8, 3}, [2]int64{9, 4}, [2]int64{10, 5}, [2]int64{11, 6}, [2]int64{12, 7})
	expectRestored(t, "a row", row, 1, []int64{0, 1, 2, 3, 4, 5}, lit)
	behind, ok := impl.BehindTies(row, 1, allBuses(6))
	expectList(t, "BehindTies of a row", behind, ok, []int64{16380, 16120, 15600, 14560, 12480, 8320})
	expectRestored(t, "a row at its limits", withMost(row, behind...), 1, []int64{0, 1, 2, 3, 4, 5}, lit)
	for i := range behind {
		less := slices.Clone(behind)
		less[i]--
		checkPlanFails(t, "a tie too small", withMost(row, less...), 1, allBuses(6))
		checkRestored(t, withMost(row, less...), 1)
	}
}

// Promise 9: the empty set is always a plan, by which a bus at the end of a line costs its own customers.
func TestEmptyPlans(t *testing.T) {
	for _, parents := range someParents() {
		g := gridOf(parents)
		for bus := int64(1); bus < int64(len(parents)); bus++ {
			for _, ends := range [][2]int64{{0, bus}, {bus, 0}} {
				tied := gridOf(parents, repeated(ends, 6)...)
				want := sumAt(g, allBuses(len(parents))) - sumAt(g, belowOf(parents, bus))
				expectRestored(t, "no ties", g, bus, nil, want)
				expectRestored(t, "ties to the bus", tied, bus, nil, want)
				if !impl.IsPlan(g, bus, nil) || !impl.IsPlan(tied, bus, []int64{}) {
					t.Errorf("IsPlan %d in %v without ties: false", bus, parents)
				}
			}
			behind, ok := impl.BehindTies(g, bus, nil)
			expectList(t, "BehindTies of none", behind, ok, nil)
		}
	}
}

// Promise 9: a bus costs the customers that are not restored, and the root costs all of them.
func TestImpactOf(t *testing.T) {
	for _, g := range append(someGrids(), gridOf([]int64{-1}), gridOf(rowParents(16)), gridOf(starParents(16))) {
		want := []int64{sumAt(g, allBuses(len(g.Feeder.Buses)))}
		worst := int64(0)
		for bus := int64(1); bus < int64(len(g.Feeder.Buses)); bus++ {
			_, lit := bestOf(g, bus)
			want = append(want, want[0]-lit)
			if worst == 0 || want[bus] > want[worst] {
				worst = bus
			}
		}
		impact, ok := impl.ImpactOf(g)
		expectList(t, "ImpactOf "+gridText(g), impact, ok, want)
		bus, most, ok := impl.WorstBus(g)
		if worst == 0 {
			expectFailure(t, "WorstBus of the root alone", bus == 0 && most == 0, ok)
		} else {
			expect(t, "WorstBus "+gridText(g), fmt.Sprint(bus, most, ok), fmt.Sprint(worst, want[worst], true))
		}
	}
}

// Promise 9: the worst bus is the first one of several, and never the root.
func TestWorstBus(t *testing.T) {
	cases := []struct {
		what      string
		parents   []int64
		ends      [][2]int64
		customers []int64
		bus, most int64
	}{
		{"a row", []int64{-1, 0, 1, 2}, nil, []int64{1, 2, 3, 4}, 1, 9},
		{"a row in a ring", []int64{-1, 0, 1, 2}, [][2]int64{{3, 0}}, []int64{1, 2, 3, 4}, 3, 4},
		{"no customers", []int64{-1, 0, 1, 2}, nil, []int64{0, 0, 0, 0}, 1, 0},
		{"customers of the root alone", []int64{-1, 0, 0}, nil, []int64{1000000, 0, 0}, 1, 0},
		{"several", []int64{-1, 0, 0, 0}, nil, []int64{9, 2, 5, 5}, 2, 5},
		{"one behind the other", []int64{-1, 0, 1, 0}, nil, []int64{9, 0, 5, 5}, 1, 5},
		{"the last one", []int64{-1, 0, 0, 0}, nil, []int64{9, 4, 4, 5}, 3, 5},
		{"two buses", []int64{-1, 0}, [][2]int64{{0, 1}}, []int64{7, 3}, 1, 3},
	}
	for _, c := range cases {
		bus, most, ok := impl.WorstBus(withCustomers(gridOf(c.parents, c.ends...), c.customers...))
		expect(t, "WorstBus of "+c.what, fmt.Sprint(bus, most, ok), fmt.Sprint(c.bus, c.most, true))
	}
	alone := gridOf([]int64{-1})
	bus, most, ok := impl.WorstBus(alone)
	expectFailure(t, "WorstBus of the root alone", bus == 0 && most == 0, ok)
	impact, ok := impl.ImpactOf(withCustomers(alone, 5))
	expectList(t, "ImpactOf the root alone", impact, ok, []int64{5})
}

// Promise 9: the example of the document.
func TestExampleGrid(t *testing.T) {
	g := withMost(withCustomers(gridOf([]int64{-1, 0, 1}, [2]int64{0, 2}), 1, 2, 3), 10)
	expectRestored(t, "the example", g, 1, []int64{0}, 4)
	impact, ok := impl.ImpactOf(g)
	expectList(t, "ImpactOf the example", impact, ok, []int64{6, 2, 3})
}
