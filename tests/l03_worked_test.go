package tests

import (
	"fmt"
	"strconv"
	"testing"

	"loop.example/g01212/impl"
)

// words are read from left to right.
type words struct {
	t    *testing.T
	left []string
}

// word returns the next word.
func (w *words) word() string {
	w.t.Helper()
	if len(w.left) == 0 {
		w.t.Fatalf("row: too short")
	}
	first := w.left[0]
	w.left = w.left[1:]
	return first
}

// integer returns the next word as an integer.
func (w *words) integer() int64 {
	w.t.Helper()
	n, err := strconv.ParseInt(w.word(), 10, 64)
	if err != nil {
		w.t.Fatalf("row: %v", err)
	}
	return n
}

// number returns the next word as a number.
func (w *words) number() float32 {
	w.t.Helper()
	return numberOf(w.t, w.word())
}

// complex returns the next two words as a complex number.
func (w *words) complex() complex64 {
	w.t.Helper()
	re := w.number()
	return complex(re, w.number())
}

// phases returns the next six words as phases.
func (w *words) phases() impl.Phases {
	w.t.Helper()
	a := w.complex()
	b := w.complex()
	return impl.Phases{A: a, B: b, C: w.complex()}
}

// phasesList returns the next words as a list of phases.
func (w *words) phasesList(count int) []impl.Phases {
	w.t.Helper()
	var list []impl.Phases
	for range count {
		list = append(list, w.phases())
	}
	return list
}

// feeder returns the next words as a feeder.
func (w *words) feeder() impl.Feeder {
	w.t.Helper()
	count := w.integer()
	f := impl.Feeder{Source: w.phases()}
	for range count {
		b := impl.Bus{Parent: w.integer(), Kind: w.integer()}
		b.Own = w.complex()
		b.Shared = w.complex()
		b.Load = w.phases()
		f.Buses = append(f.Buses, b)
	}
	return f
}

// checkWorked compares the measures of a flow with the next words.
func checkWorked(w *words, what string, f impl.Feeder, flow impl.Flow) {
	w.t.Helper()
	rest, ok := impl.RestOf(f, flow)
	if !ok {
		w.t.Errorf("RestOf %s: fails", what)
	}
	expectNumber(w.t, "RestOf "+what, rest, w.number())
	bus, low, ok := impl.LowestBus(f, flow)
	expect(w.t, "LowestBus "+what, fmt.Sprint(bus, digitsOf(low), ok), fmt.Sprint(w.integer(), w.word(), true))
	last := flow.Voltages[len(flow.Voltages)-1]
	expectNumber(w.t, "WidestPair "+what, impl.WidestPair(last), w.number())
}

// Promise 4: flows are told to the last bit, whether they rest or not.
func TestWorkedFlows(t *testing.T) {
	for i, row := range rowsOf(flowRows) {
		what := fmt.Sprint("of the row ", i)
		w := &words{t: t, left: row}
		rounds, near, f := w.integer(), w.number(), w.feeder()
		want := impl.Flow{Rounds: w.integer(), Rests: w.word() == "1"}
		flow := solved(t, f, rounds, near)
		checkWorked(w, what, f, flow)
		want.Voltages = w.phasesList(len(f.Buses))
		want.Currents = w.phasesList(len(f.Buses))
		expectFlow(t, "SolveFeeder "+what, flow, true, want)
		flat, ok := impl.FlatVoltages(f)
		expectPhasesList(t, "FlatVoltages "+what, flat, ok, repeated(f.Source, len(f.Buses)))
		want.Rests = false
		expectFlow(t, "RunSweeps "+what, run(t, f, flat, want.Rounds), true, want)
		if len(w.left) > 0 {
			t.Errorf("row %d: too long", i)
		}
	}
}
