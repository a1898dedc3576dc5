package tests

import (
	"fmt"
	"testing"

	"loop.example/g01212/impl"
)

// numbers returns the next words as numbers.
func (w *words) numbers(count int) []float32 {
	w.t.Helper()
	var list []float32
	for range count {
		list = append(list, w.number())
	}
	return list
}

// taps returns the next words as taps.
func (w *words) taps() []impl.Tap {
	w.t.Helper()
	var taps []impl.Tap
	for range w.integer() {
		tap := impl.Tap{Bus: w.integer()}
		tap.A, tap.B, tap.C = w.integer(), w.integer(), w.integer()
		tap.Each = w.number()
		taps = append(taps, tap)
	}
	return taps
}

// end reports words that are left.
func (w *words) end(what string) {
	w.t.Helper()
	if len(w.left) > 0 {
		w.t.Errorf("%s: too long", what)
	}
}

// Promise 6: ratios are told to the last bit, in each phase.
func TestWorkedRatios(t *testing.T) {
	for i, row := range rowsOf(ratioRows) {
		w := &words{t: t, left: row}
		steps, each, want := w.integer(), w.number(), w.number()
		for place := range 3 {
			tap := impl.Tap{Bus: int64(i) - 20, Each: each}
			*stepsAt(&tap, place) = steps
			ratios, ok := impl.RatiosOf(tap)
			wanted := []float32{1, 1, 1}
			wanted[place] = want
			expect(t, fmt.Sprint("RatiosOf ", tapText(tap), ok), tellNumbers(ratios), tellNumbers(wanted))
		}
		w.end(fmt.Sprint("row ", i))
	}
}

// Promise 6: turned phases are told to the last bit.
func TestWorkedTurns(t *testing.T) {
	for i, row := range rowsOf(turnRows) {
		w := &words{t: t, left: row}
		p := w.phases()
		ratios := w.numbers(3)
		turned, ok := impl.TurnPhases(p, ratios)
		expectPhases(t, fmt.Sprint("TurnPhases of the row ", i, " ", ok), turned, w.phases())
		w.end(fmt.Sprint("row ", i))
	}
}

// Promise 6: flows with taps are told to the last bit.
func TestWorkedTaps(t *testing.T) {
	for i, row := range rowsOf(tapRows) {
		what := fmt.Sprint("RunTaps of the row ", i)
		w := &words{t: t, left: row}
		rounds, taps, f := w.integer(), w.taps(), w.feeder()
		want := impl.Flow{Voltages: w.phasesList(len(f.Buses)), Rounds: rounds}
		want.Currents = w.phasesList(len(f.Buses))
		expectFlow(t, what, runTaps(t, f, taps, rounds), true, want)
		w.end(what)
	}
}

// Promise 6: taps that follow voltages are told, whether they come to an end or not.
func TestWorkedAutoTaps(t *testing.T) {
	for i, row := range rowsOf(autoRows) {
		what := fmt.Sprint("AutoTaps of the row ", i)
		w := &words{t: t, left: row}
		target, band, rounds, most := w.number(), w.number(), w.integer(), w.integer()
		taps, f := w.taps(), w.feeder()
		got, changes, ok := impl.AutoTaps(f, taps, target, band, rounds, most)
		expect(t, what, fmt.Sprint(changes), w.word())
		expectTaps(t, what, got, ok, w.taps())
		set := inBand(t, f, runTaps(t, f, got, rounds), target, band)
		expect(t, "InBand of the row", setText(set), w.word())
		w.end(what)
	}
}

// Promise 6: the loads of banks are told to the last bit.
func TestWorkedBanks(t *testing.T) {
	for i, row := range rowsOf(bankRows) {
		w := &words{t: t, left: row}
		size := w.number()
		load := w.complex()
		f := treeOf([]int64{-1, 0, 1})
		for bus := range int64(3) {
			want := treeOf([]int64{-1, 0, 1})
			want.Buses = append(want.Buses, impl.Bus{Parent: bus, Kind: impl.LoadImpedance, Load: sameThree(load)})
			banked, ok := impl.AddBank(f, bus, size)
			expectFeeder(t, fmt.Sprint("AddBank of the row ", i), banked, ok, want)
		}
		w.end(fmt.Sprint("row ", i))
	}
}

// Promise 6: the best banks are told, with the voltages that they make.
func TestWorkedBestBanks(t *testing.T) {
	for i, row := range rowsOf(bestRows) {
		what := fmt.Sprint("BestBank of the row ", i)
		w := &words{t: t, left: row}
		bus, rounds := w.integer(), w.integer()
		sizes := w.numbers(int(w.integer()))
		f := w.feeder()
		best, ok := impl.BestBank(f, bus, sizes, rounds)
		expect(t, what, fmt.Sprint(best, ok), w.word()+" true")
		banked, _ := impl.AddBank(f, bus, sizes[best])
		lowest, low, ok := impl.LowestBus(banked, run(t, banked, repeated(f.Source, len(banked.Buses)), rounds))
		expect(t, "LowestBus of the row", fmt.Sprint(lowest, " ", digitsOf(low), ok), w.word()+" "+w.word()+"true")
		w.end(what)
	}
}
