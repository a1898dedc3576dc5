package tests

import (
	"fmt"
	"testing"

	"loop.example/g01212/impl"
)

// tellMeasures tells what does not depend on which phase is which, to the last bit.
func tellMeasures(t *testing.T, f impl.Feeder, flow impl.Flow) string {
	t.Helper()
	text := digitsOf(ofFlow(t, f, flow, impl.MismatchOf))
	for bus := range int64(len(f.Buses)) {
		text += " " + digitsOf(ofFlow(t, f, flow, dropShareAt(bus)))
	}
	for _, bound := range []float32{0, 1, 7.5, 100, 200, 239, 240, greatestNumber} {
		text += fmt.Sprint(ofFlow(t, f, flow, overLoads(bound)), ofFlow(t, f, flow, underVoltages(bound)))
	}
	return text
}

// Promise 3: drops, loads and voltages that go around have the same measures.
func TestMeasuresGoAround(t *testing.T) {
	feeders := oddFeeders()
	for _, parents := range someParents() {
		feeders = append(feeders, gentle(parents))
	}
	for _, f := range feeders {
		around, ok := impl.NextFeeder(f)
		if !ok {
			t.Fatalf("NextFeeder: fails")
		}
		flows := []impl.Flow{solved(t, f, 3, 0.1)}
		if len(f.Buses) == 5 {
			flows = append(flows, oddFlows(5)...)
		}
		for _, flow := range flows {
			expect(t, "measures around", tellMeasures(t, around, impl.NextFlow(flow)), tellMeasures(t, f, flow))
		}
	}
}

// tellPowers tells the powers of a flow.
func tellPowers(t *testing.T, f impl.Feeder, flow impl.Flow) string {
	t.Helper()
	return fmt.Sprint(complexListText(ofFlow(t, f, flow, impl.LossesOf)), " | ", complexListText(ofFlow(t, f, flow, impl.LoadPowersOf)),
		" | ", partsOf(ofFlow(t, f, flow, impl.SourcePowerOf)), " | ", partsOf(ofFlow(t, f, flow, impl.PowerBalanceOf)))
}

// Promise 3: phases that go around have the same powers where the sums are exact.
func TestPowersGoAround(t *testing.T) {
	for _, parents := range append(parentsUpTo(5), starParents(6), rowParents(6)) {
		f := currentFeeder(parents)
		flow := solved(t, f, 2, 0)
		around, _ := impl.NextFeeder(f)
		expect(t, "powers around", tellPowers(t, around, impl.NextFlow(flow)), tellPowers(t, f, flow))
	}
}

// Promise 3: a part that is cut off has the losses and the powers of loads that it had, but no line of its root.
func TestPowersOfParts(t *testing.T) {
	for _, parents := range someParents() {
		f := gentle(parents)
		flow := solved(t, f, 2, 0)
		losses, loads := ofFlow(t, f, flow, impl.LossesOf), ofFlow(t, f, flow, impl.LoadPowersOf)
		for bus := range parents {
			below := belowOf(parents, int64(bus))
			part, ok := impl.PartFeeder(f, int64(bus), f.Source)
			if !ok {
				t.Fatalf("PartFeeder: fails")
			}
			partFlow := impl.Flow{Voltages: at(flow.Voltages, below), Currents: at(flow.Currents, below)}
			var wantLosses, wantLoads []complex64
			for _, i := range below {
				wantLosses, wantLoads = append(wantLosses, losses[i]), append(wantLoads, loads[i])
			}
			wantLosses[0] = 0
			expectComplexList(t, "LossesOf a part", ofFlow(t, part, partFlow, impl.LossesOf), wantLosses)
			expectComplexList(t, "LoadPowersOf a part", ofFlow(t, part, partFlow, impl.LoadPowersOf), wantLoads)
		}
	}
}
