package tests

import (
	"fmt"
	"testing"

	"loop.example/g01212/impl"
)

// complexes returns the next words as complex numbers.
func (w *words) complexes(count int) []complex64 {
	w.t.Helper()
	var list []complex64
	for range count {
		list = append(list, w.complex())
	}
	return list
}

// checkPowers compares the powers of a flow with the next words.
func checkPowers(w *words, what string, f impl.Feeder, flow impl.Flow) {
	w.t.Helper()
	expectComplexList(w.t, "LossesOf "+what, ofFlow(w.t, f, flow, impl.LossesOf), w.complexes(len(f.Buses)))
	expectComplexList(w.t, "LoadPowersOf "+what, ofFlow(w.t, f, flow, impl.LoadPowersOf), w.complexes(len(f.Buses)))
	source := ofFlow(w.t, f, flow, impl.SourcePowerOf)
	expectComplex(w.t, "SourcePowerOf "+what, source, w.complex())
	expectComplex(w.t, "PowerBalanceOf "+what, ofFlow(w.t, f, flow, impl.PowerBalanceOf), w.complex())
	expectNumber(w.t, "LossShareOf "+what, ofFlow(w.t, f, flow, impl.LossShareOf), w.number())
	expectNumber(w.t, "FactorOf "+what, impl.FactorOf(source), w.number())
}

// checkVoltages compares the measures of voltages and currents with the next words.
func checkVoltages(w *words, what string, f impl.Feeder, flow impl.Flow, most, least float32) {
	w.t.Helper()
	for bus := range int64(len(f.Buses)) {
		expectNumber(w.t, fmt.Sprint("DropShareOf ", bus, what), ofFlow(w.t, f, flow, dropShareAt(bus)), w.number())
	}
	for _, p := range flow.Voltages {
		expectNumber(w.t, "UnbalanceOf "+what, impl.UnbalanceOf(p), w.number())
	}
	expect(w.t, "OverLoads "+what, setText(ofFlow(w.t, f, flow, overLoads(most))), w.word())
	expect(w.t, "UnderVoltages "+what, setText(ofFlow(w.t, f, flow, underVoltages(least))), w.word())
	expectNumber(w.t, "MismatchOf "+what, ofFlow(w.t, f, flow, impl.MismatchOf), w.number())
}

// Promises 3 and 5: the balances of flows are told to the last bit, whatever their numbers are.
func TestWorkedBalances(t *testing.T) {
	for i, row := range rowsOf(balanceRows) {
		what := fmt.Sprint(" of the row ", i)
		w := &words{t: t, left: row}
		f := w.feeder()
		voltages := w.phasesList(len(f.Buses))
		flow := impl.Flow{Voltages: voltages, Currents: w.phasesList(len(f.Buses)), Rounds: int64(i % 51)}
		most, least := w.number(), w.number()
		checkPowers(w, what, f, flow)
		checkVoltages(w, what, f, flow, most, least)
		if len(w.left) > 0 {
			t.Errorf("row %d: too long", i)
		}
	}
}

// Promise 5: powers between voltages and currents are told to the last bit.
func TestWorkedPowers(t *testing.T) {
	for _, row := range rowsOf(betweenRows) {
		w := &words{t: t, left: row}
		voltage := w.phases()
		current := w.phases()
		got := impl.PowerBetween(voltage, current)
		expectComplex(t, "PowerBetween "+phasesText(voltage)+" and "+phasesText(current), got, w.complex())
	}
}

// Promise 5: factors are told to the last bit.
func TestWorkedFactors(t *testing.T) {
	for _, row := range rowsOf(factorRows) {
		expectNumber(t, "FactorOf "+row[0]+" "+row[1], impl.FactorOf(complexOf(t, row)), numberOf(t, row[2]))
	}
}

// Promise 5: unbalances are told to the last bit.
func TestWorkedUnbalances(t *testing.T) {
	for _, row := range rowsOf(unbalanceRows) {
		w := &words{t: t, left: row}
		p := w.phases()
		expectNumber(t, "UnbalanceOf "+phasesText(p), impl.UnbalanceOf(p), w.number())
	}
}
