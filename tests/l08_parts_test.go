package tests

import (
	"fmt"
	"testing"

	"loop.example/g01212/impl"
)

// Promise 9: the bus that fails and all behind it are dark, in parts behind its children, on all small trees.
func TestDarkParts(t *testing.T) {
	for _, parents := range someParents() {
		for bus := 1; bus < len(parents); bus++ {
			for _, g := range []impl.Grid{gridOf(parents), gridOf(parents, [2]int64{0, int64(bus)}, [2]int64{int64(bus), 0})} {
				what := fmt.Sprint(bus, " in ", parents)
				dark, ok := impl.DarkAfter(g, int64(bus))
				expectList(t, "DarkAfter "+what, dark, ok, belowOf(parents, int64(bus)))
				var want [][]int64
				for child, parent := range parents {
					if parent == int64(bus) {
						want = append(want, belowOf(parents, int64(child)))
					}
				}
				parts, ok := impl.PartsAfter(g, int64(bus))
				expect(t, "PartsAfter "+what, fmt.Sprint(len(parts), parts, ok), fmt.Sprint(len(want), want, true))
			}
		}
	}
}

// Promise 9: dark parts of a bus at the end of a line, with several children, and next to the root.
func TestDarkPartsOfOneTree(t *testing.T) {
	g := gridOf([]int64{-1, 0, 1, 1, 2, 0, 3, 1})
	cases := []struct {
		bus         int64
		dark, parts string
	}{
		{1, "[1 2 3 4 6 7]", "[[2 4] [3 6] [7]]"}, {2, "[2 4]", "[[4]]"}, {3, "[3 6]", "[[6]]"},
		{4, "[4]", "[]"}, {5, "[5]", "[]"}, {6, "[6]", "[]"}, {7, "[7]", "[]"},
	}
	for _, c := range cases {
		dark, isDark := impl.DarkAfter(g, c.bus)
		parts, isParts := impl.PartsAfter(g, c.bus)
		if !isDark || !isParts {
			t.Errorf("parts after %d: fail", c.bus)
		}
		expect(t, fmt.Sprint("DarkAfter ", c.bus), fmt.Sprint(dark), c.dark)
		expect(t, fmt.Sprint("PartsAfter ", c.bus), fmt.Sprint(parts), c.parts)
	}
}

// Promise 9: the buses that hang together with the root are lit, with all sets of closed ties of many grids.
func TestLitAfter(t *testing.T) {
	eachClosed(func(what string, g impl.Grid, bus int64, closed []int64) {
		want := hangWith(g, bus, closed, 0)
		lit, ok := impl.LitAfter(g, bus, closed)
		expectList(t, "LitAfter "+what, lit, ok, want)
		sum, ok := impl.CustomersLit(g, bus, closed)
		expect(t, "CustomersLit "+what, fmt.Sprint(sum, ok), fmt.Sprint(sumAt(g, want), true))
	})
}

// edges returns how many lines are left, and how many groups of buses they and
// closed ties make, without the bus that has failed.
func edges(g impl.Grid, bus int64, closed []int64) (lines, groups int) {
	for i, b := range g.Feeder.Buses {
		if i > 0 && int64(i) != bus && b.Parent != bus {
			lines++
		}
		if int64(i) != bus && hangWith(g, bus, closed, int64(i))[0] == int64(i) {
			groups++
		}
	}
	return lines, groups
}

// Promise 9: there is a loop where lines and ties are more than it takes to join the buses of all groups.
func TestHasLoop(t *testing.T) {
	eachClosed(func(what string, g impl.Grid, bus int64, closed []int64) {
		lines, groups := edges(g, bus, closed)
		want := lines+len(closed) > len(g.Feeder.Buses)-1-groups
		isLoop, ok := impl.HasLoop(g, bus, closed)
		expect(t, "HasLoop "+what, fmt.Sprint(isLoop, ok), fmt.Sprint(want, true))
		if closesLoop(g, bus, closed) != want {
			t.Errorf("HasLoop %s: ties of lesser indices tell otherwise", what)
		}
	})
}

// Promise 9: loops with lines and with ties alone, in what is lit and in what is dark.
func TestLoopsOfOneTree(t *testing.T) {
	// 1 fails, behind which there are the parts 2 and 5, 3, and 4.
	parents := []int64{-1, 0, 1, 1, 1, 2, 0}
	cases := []struct {
		what string
		ends [][2]int64
		lit  string
		loop bool
	}{
		{"no tie", nil, "0,6", false},
		{"within what stays lit", [][2]int64{{0, 6}}, "0,6", true},
		{"within what stays lit, the other way", [][2]int64{{6, 0}}, "0,6", true},
		{"within a dark part", [][2]int64{{2, 5}}, "0,6", true},
		{"between two dark parts", [][2]int64{{3, 4}}, "0,6", false},
		{"twice between two dark parts", [][2]int64{{3, 4}, {4, 3}}, "0,6", true},
		{"between two dark parts by several buses", [][2]int64{{2, 3}, {3, 5}}, "0,6", true},
		{"from a dark part to what is lit", [][2]int64{{5, 6}}, "0,2,5,6", false},
		{"from the root", [][2]int64{{0, 3}}, "0,3,6", false},
		{"twice from the root", [][2]int64{{0, 3}, {0, 3}}, "0,3,6", true},
		{"from two lit buses", [][2]int64{{0, 3}, {3, 6}}, "0,3,6", true},
		{"to two buses of a dark part", [][2]int64{{0, 2}, {0, 5}}, "0,2,5,6", true},
		{"to all parts", [][2]int64{{0, 2}, {0, 3}, {0, 4}}, "0,2,3,4,5,6", false},
		{"one part behind the other", [][2]int64{{0, 2}, {5, 3}, {3, 4}}, "0,2,3,4,5,6", false},
		{"one part behind the other, backward", [][2]int64{{3, 4}, {5, 3}, {0, 2}}, "0,2,3,4,5,6", false},
		{"ties around dark parts", [][2]int64{{2, 3}, {3, 4}, {4, 2}}, "0,6", true},
		{"ties around lit parts", [][2]int64{{2, 3}, {3, 4}, {4, 2}, {0, 4}}, "0,2,3,4,5,6", true},
		{"a ring by the root", [][2]int64{{0, 2}, {2, 3}, {3, 6}}, "0,2,3,5,6", true},
		{"a loop that is dark", [][2]int64{{0, 3}, {2, 4}, {4, 5}}, "0,3,6", true},
	}
	for _, c := range cases {
		g := gridOf(parents, c.ends...)
		closed := allBuses(len(c.ends))
		lit, isLit := impl.LitAfter(g, 1, closed)
		isLoop, ok := impl.HasLoop(g, 1, closed)
		expect(t, c.what, fmt.Sprint(setText(lit), isLit, isLoop, ok), fmt.Sprint(c.lit, true, c.loop, true))
		behind, ok := impl.BehindTies(g, 1, closed)
		if ok == c.loop || c.loop && len(behind) > 0 {
			t.Errorf("BehindTies %s: %v, %v", c.what, behind, ok)
		}
		if c.loop {
			checkPlanFails(t, c.what, g, 1, closed)
		}
		nothing, ok := impl.LitAfter(g, 1, nil)
		expectList(t, "LitAfter without closed ties", nothing, ok, []int64{0, 6})
	}
}

// Promise 9: ties to a bus that fails stay open, and others are closed.
func TestTiesToFailedBuses(t *testing.T) {
	g := gridOf([]int64{-1, 0, 1, 1}, [2]int64{0, 1}, [2]int64{1, 2}, [2]int64{0, 2}, [2]int64{3, 1})
	for _, closed := range [][]int64{{0}, {1}, {3}, {0, 2}, {1, 2}, {2, 3}, {0, 1, 2, 3}} {
		checkClosedFails(t, "ties to the bus", g, 1, closed)
	}
	lit, ok := impl.LitAfter(g, 1, []int64{2})
	expectList(t, "LitAfter", lit, ok, []int64{0, 2})
	expectRestored(t, "ties to the bus", g, 1, []int64{2}, 5)
	expectRestored(t, "ties to the bus", g, 2, nil, 11)
	expectRestored(t, "ties to the bus", g, 3, nil, 7)
}
