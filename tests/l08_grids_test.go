package tests

import (
	"fmt"
	"math"
	"slices"
	"testing"

	"loop.example/g01212/impl"
)

// Promise 9: a grid has a valid feeder and at most six ties, each between two of its buses.
func TestValidGrid(t *testing.T) {
	for _, g := range someGrids() {
		if !impl.ValidGrid(g) {
			t.Errorf("ValidGrid %s: false", gridText(g))
		}
	}
	for _, parents := range someParents() {
		if !impl.ValidGrid(gridOf(parents)) {
			t.Errorf("ValidGrid without ties, %v: false", parents)
		}
	}
	for what, g := range wrongGrids() {
		if impl.ValidGrid(g) {
			t.Errorf("ValidGrid with %s: true", what)
		}
	}
}

// Promise 9: ties have any impedances, and limits up to all customers of the greatest feeder.
func TestTiesOfValidGrid(t *testing.T) {
	for _, most := range []int64{0, 1, 1000000, greatestMost - 1, greatestMost} {
		for count := range 7 {
			g := gridOf(rowParents(16), repeated([2]int64{15, 0}, count)...)
			if g = withMost(g, repeated(most, count)...); !impl.ValidGrid(g) {
				t.Errorf("ValidGrid with %d ties of %d: false", count, most)
			}
		}
	}
	for _, p := range oddPhases() {
		g := gridOf([]int64{-1, 0}, [2]int64{1, 0})
		g.Ties[0].Own, g.Ties[0].Shared = p.A, p.B
		if !impl.ValidGrid(g) {
			t.Errorf("ValidGrid with the tie %s: false", tieText(g.Ties[0]))
		}
	}
	for a := range int64(4) {
		for b := range int64(4) {
			if impl.ValidGrid(gridOf([]int64{-1, 0, 0, 1}, [2]int64{a, b})) != (a != b) {
				t.Errorf("ValidGrid with a tie from %d to %d: %v", a, b, a == b)
			}
		}
	}
}

// changedTie returns a grid with a change of one tie.
func changedTie(g impl.Grid, at int, change func(tie *impl.Tie)) impl.Grid {
	ties := slices.Clone(g.Ties)
	change(&ties[at])
	return impl.Grid{Feeder: g.Feeder, Ties: ties}
}

// otherGrids are a grid and others, of which nearly no two are the same, and some are not valid.
func otherGrids() []impl.Grid {
	g := gridOf([]int64{-1, 0, 1}, [2]int64{0, 2}, [2]int64{1, 2}, [2]int64{0, 2})
	grids := []impl.Grid{
		g, {}, {Ties: g.Ties}, {Feeder: g.Feeder}, {Feeder: g.Feeder, Ties: g.Ties[:2]}, {Feeder: g.Feeder, Ties: g.Ties[1:]},
		{Feeder: g.Feeder, Ties: append(slices.Clone(g.Ties), g.Ties[2])}, {Feeder: g.Feeder, Ties: []impl.Tie{g.Ties[1], g.Ties[0], g.Ties[2]}},
		{Feeder: treeOf([]int64{-1, 0, 0}), Ties: g.Ties}, {Feeder: treeOf([]int64{-1, 0, 1, 1}), Ties: g.Ties}, {Feeder: treeOf([]int64{0, 0, 1}), Ties: g.Ties},
	}
	f := treeOf([]int64{-1, 0, 1})
	f.Source.C = complex(-120, nextUp(208))
	grids = append(grids, impl.Grid{Feeder: f, Ties: g.Ties})
	f = changedBus([]int64{-1, 0, 1}, 2, func(b *impl.Bus) { b.Customers++ })
	grids = append(grids, impl.Grid{Feeder: f, Ties: g.Ties})
	for at := range 3 {
		for _, bus := range []int64{-1, 3, math.MinInt64, math.MaxInt64} {
			grids = append(grids, changedTie(g, at, func(tie *impl.Tie) { tie.A = bus }), changedTie(g, at, func(tie *impl.Tie) { tie.B = bus }))
		}
		for _, most := range []int64{0, -1, greatestMost - 1, greatestMost + 1, math.MaxInt64} {
			grids = append(grids, changedTie(g, at, func(tie *impl.Tie) { tie.Most = most }))
		}
		for _, x := range oddNumbers() {
			grids = append(grids,
				changedTie(g, at, func(tie *impl.Tie) { tie.Own = complex(x, 1) }), changedTie(g, at, func(tie *impl.Tie) { tie.Own = complex(1, x) }),
				changedTie(g, at, func(tie *impl.Tie) { tie.Shared = complex(x, 1) }), changedTie(g, at, func(tie *impl.Tie) { tie.Shared = complex(1, x) }))
		}
		grids = append(grids, changedTie(g, at, func(tie *impl.Tie) { tie.A, tie.B = tie.B, tie.A }))
	}
	return grids
}

// Promise 9: grids are the same if all of their numbers are, whether they are valid or not.
func TestSameGrid(t *testing.T) {
	grids := otherGrids()
	var texts []string
	for _, g := range grids {
		texts = append(texts, gridText(g))
	}
	for i, a := range grids {
		for j, b := range grids {
			// Both parts of an impedance are 1 in two of the changes.
			want := texts[i] == texts[j]
			if impl.SameGrid(a, impl.Grid{Feeder: b.Feeder, Ties: slices.Clone(b.Ties)}) != want {
				t.Errorf("SameGrid of %s and %s: %v", texts[i], texts[j], !want)
			}
		}
	}
}

// Promise 9: all not-a-numbers are one value, zeros are two, and no ties are none.
func TestSameGridOfOddNumbers(t *testing.T) {
	other := math.Float32frombits(0xffc12345)
	g := gridOf([]int64{-1, 0}, [2]int64{0, 1})
	a := changedTie(g, 0, func(tie *impl.Tie) { tie.Own, tie.Shared = complex(notANumber, 0), complex(1, other) })
	b := changedTie(g, 0, func(tie *impl.Tie) { tie.Own, tie.Shared = complex(other, 0), complex(1, notANumber) })
	if !impl.SameGrid(a, b) {
		t.Errorf("SameGrid of two not-a-numbers: false")
	}
	for _, zero := range []complex64{complex(negativeZero, 0), complex(0, negativeZero)} {
		a := changedTie(g, 0, func(tie *impl.Tie) { tie.Own = 0 })
		b := changedTie(g, 0, func(tie *impl.Tie) { tie.Own = zero })
		if impl.SameGrid(a, b) || impl.SameGrid(b, a) || !impl.SameGrid(b, b) {
			t.Errorf("SameGrid of the zeros 0 and %s", partsOf(zero))
		}
	}
	if !impl.SameGrid(impl.Grid{Feeder: g.Feeder}, impl.Grid{Feeder: g.Feeder, Ties: []impl.Tie{}}) {
		t.Errorf("SameGrid of nil and empty ties: false")
	}
}

// expectNoGrid reports a grid that is not the zero value of a failure.
func expectNoGrid(t *testing.T, what string, got impl.Grid, ok bool) {
	t.Helper()
	expectFailure(t, what, gridText(got) == gridText(impl.Grid{}), ok)
}

// Promise 9: a tie more stands behind the others, up to six of them.
func TestAddTie(t *testing.T) {
	for _, whole := range someGrids() {
		g := impl.Grid{Feeder: whole.Feeder}
		for i, tie := range whole.Ties {
			more, ok := impl.AddTie(g, tie)
			expect(t, fmt.Sprint("AddTie ", i, " ", ok), gridText(more), gridText(impl.Grid{Feeder: whole.Feeder, Ties: whole.Ties[:i+1]}))
			g = more
		}
	}
	for _, p := range oddPhases() {
		tie := impl.Tie{A: 1, B: 0, Own: p.A, Shared: p.C}
		more, ok := impl.AddTie(gridOf([]int64{-1, 0}), tie)
		expect(t, fmt.Sprint("AddTie ", ok), gridText(more), gridText(impl.Grid{Feeder: treeOf([]int64{-1, 0}), Ties: []impl.Tie{tie}}))
	}
	full := gridOf(rowParents(4), repeated([2]int64{0, 3}, 6)...)
	more, ok := impl.AddTie(full, tieAt(6, 0, 3))
	expectNoGrid(t, "AddTie to six ties", more, ok)
}

// Promise 1: ties and grids that are not valid make AddTie fail with zero values.
func TestWrongTiesFail(t *testing.T) {
	for what, tie := range wrongTies(4) {
		for count := range 7 {
			more, ok := impl.AddTie(gridOf(rowParents(4), repeated([2]int64{0, 3}, count)...), tie)
			expectNoGrid(t, "AddTie with "+what, more, ok)
		}
	}
	for what, g := range wrongGrids() {
		more, ok := impl.AddTie(g, tieAt(6, 0, 1))
		expectNoGrid(t, "AddTie to "+what, more, ok)
	}
	more, ok := impl.AddTie(gridOf([]int64{-1}), tieAt(0, 0, 1))
	expectNoGrid(t, "AddTie to the root alone", more, ok)
}

// Promise 1: grids that are not valid make all functions of grids fail with zero values.
func TestWrongGridsFail(t *testing.T) {
	for what, g := range wrongGrids() {
		for bus := int64(-1); bus < 5; bus++ {
			checkAfterFails(t, what, g, bus)
		}
		impact, ok := impl.ImpactOf(g)
		expectFailure(t, "ImpactOf with "+what, len(impact) == 0, ok)
		worst, most, ok := impl.WorstBus(g)
		expectFailure(t, "WorstBus with "+what, worst == 0 && most == 0, ok)
	}
}

// Promise 1: the root does not fail, and neither does a bus that is not there.
func TestBusesThatDoNotFail(t *testing.T) {
	for _, g := range append(someGrids(), gridOf([]int64{-1}), gridOf(rowParents(16)), gridOf(starParents(16), [2]int64{0, 15}, [2]int64{3, 4})) {
		for _, bus := range append(absentBuses(g.Feeder), 0) {
			checkAfterFails(t, fmt.Sprint("the bus ", bus), g, bus)
		}
	}
}

// Promise 1: lists that are no sets of ties, and ties to the bus that fails, make functions of closed ties fail with zero values.
func TestWrongClosedFail(t *testing.T) {
	ends := [][2]int64{{0, 2}, {3, 4}, {0, 4}, {2, 4}, {0, 3}, {2, 3}}
	for count := 2; count <= len(ends); count++ {
		g := gridOf([]int64{-1, 0, 1, 1, 0}, ends[:count]...)
		for _, closed := range wrongClosed(count) {
			checkClosedFails(t, "a list that is no set", g, 1, closed)
		}
		for bus := range int64(5) {
			for index, end := range ends[:count] {
				if bus > 0 && slices.Contains(end[:], bus) {
					checkClosedFails(t, "a tie to the bus", g, bus, []int64{int64(index)})
					checkClosedFails(t, "all ties", g, bus, allBuses(count))
				}
			}
		}
	}
	for _, closed := range [][]int64{{0}, {-1}, {0, 1}, allBuses(6)} {
		checkClosedFails(t, "no ties", gridOf([]int64{-1, 0, 1}), 1, closed)
	}
}
