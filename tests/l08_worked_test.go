package tests

import (
	"fmt"
	"strconv"
	"strings"
	"testing"

	"loop.example/g01212/impl"
)

// integers returns so many of the next words as integers.
func (w *words) integers(count int) []int64 {
	w.t.Helper()
	var list []int64
	for range count {
		list = append(list, w.integer())
	}
	return list
}

// grid returns the next words as a grid.
func (w *words) grid() impl.Grid {
	w.t.Helper()
	count := int(w.integer())
	g := impl.Grid{Feeder: treeOf(w.integers(count))}
	g = withCustomers(g, w.integers(count)...)
	for index := range int(w.integer()) {
		ends := w.integers(2)
		tie := tieAt(index, ends[0], ends[1])
		tie.Most = w.integer()
		g.Ties = append(g.Ties, tie)
	}
	return g
}

// set returns the next word as a set.
func (w *words) set() []int64 {
	w.t.Helper()
	word := w.word()
	if word == "none" {
		return nil
	}
	var set []int64
	for _, digits := range strings.Split(word, ",") {
		n, err := strconv.ParseInt(digits, 10, 64)
		if err != nil {
			w.t.Fatalf("row: %v", err)
		}
		set = append(set, n)
	}
	return set
}

// partsTold tells parts as the rows do.
func partsTold(parts [][]int64) string {
	if len(parts) == 0 {
		return "none"
	}
	var texts []string
	for _, part := range parts {
		texts = append(texts, setText(part))
	}
	return strings.Join(texts, ";")
}

// impedances returns those of a way that a row tells: none of the root, or those of a line or a tie.
func impedances(t *testing.T, g impl.Grid, way string) (own, shared complex64) {
	t.Helper()
	if way == "root" {
		return 0, 0
	}
	index, err := strconv.Atoi(way[1:])
	if err != nil {
		t.Fatalf("row: %v", err)
	}
	if way[0] == 'l' {
		return g.Feeder.Buses[index].Own, g.Feeder.Buses[index].Shared
	}
	return g.Ties[index].Own, g.Ties[index].Shared
}

// checkWorkedFeeder compares the feeder of a plan with the next words.
func checkWorkedFeeder(w *words, what string, g impl.Grid, bus int64, plan []int64) {
	w.t.Helper()
	want := impl.Feeder{Source: g.Feeder.Source}
	var wantList []int64
	for len(w.left) > 0 {
		at := w.integer()
		b := g.Feeder.Buses[at]
		b.Parent = w.integer()
		b.Own, b.Shared = impedances(w.t, g, w.word())
		want.Buses, wantList = append(want.Buses, b), append(wantList, at)
	}
	f, list, ok := impl.FeederAfter(g, bus, plan)
	expectFeeder(w.t, "FeederAfter "+what, f, ok, want)
	expectList(w.t, "FeederAfter "+what, list, ok, wantList)
}

// Promise 9: what is dark and lit after a bus fails is told, what ties feed, which plan restores, and its feeder.
func TestWorkedPlans(t *testing.T) {
	for i, row := range rowsOf(restoreRows) {
		what := fmt.Sprint("of the row ", i)
		w := &words{t: t, left: row}
		g, bus := w.grid(), w.integer()
		dark, ok := impl.DarkAfter(g, bus)
		expectList(t, "DarkAfter "+what, dark, ok, w.set())
		parts, ok := impl.PartsAfter(g, bus)
		expect(t, "PartsAfter "+what, fmt.Sprint(partsTold(parts), ok), w.word()+"true")
		closed := w.set()
		lit, ok := impl.LitAfter(g, bus, closed)
		expectList(t, "LitAfter "+what, lit, ok, w.set())
		sum, ok := impl.CustomersLit(g, bus, closed)
		expect(t, "CustomersLit "+what, fmt.Sprint(sum, " ", ok), w.word()+" true")
		isLoop, isTold := impl.HasLoop(g, bus, closed)
		behind, ok := impl.BehindTies(g, bus, closed)
		if w.failsNext() {
			expectFailure(t, "BehindTies "+what, len(behind) == 0 && isLoop && isTold, ok)
		} else {
			expectList(t, "BehindTies "+what, behind, ok && !isLoop && isTold, w.set())
		}
		if impl.IsPlan(g, bus, closed) != (w.word() == "1") {
			t.Errorf("IsPlan %s: wrong", what)
		}
		plan := w.set()
		expectRestored(t, what, g, bus, plan, w.integer())
		checkWorkedFeeder(w, what, g, bus, plan)
	}
}

// Promise 9: what buses cost is told, and which one costs most.
func TestWorkedImpacts(t *testing.T) {
	for i, row := range rowsOf(impactRows) {
		what := fmt.Sprint("of the row ", i)
		w := &words{t: t, left: row}
		g := w.grid()
		impact, ok := impl.ImpactOf(g)
		expectList(t, "ImpactOf "+what, impact, ok, w.integers(len(g.Feeder.Buses)))
		bus, most, ok := impl.WorstBus(g)
		if w.failsNext() {
			expectFailure(t, "WorstBus "+what, bus == 0 && most == 0, ok)
		} else {
			expect(t, "WorstBus "+what, fmt.Sprint(bus, " ", most, " ", ok), w.word()+" "+w.word()+" true")
		}
		w.end(what)
	}
}
