package tests

import (
	"fmt"
	"math"
	"strings"
	"testing"

	"loop.example/g01212/impl"
)

// tapText tells all fields of a tap.
func tapText(tap impl.Tap) string {
	return fmt.Sprint(tap.Bus, ": ", tap.A, " ", tap.B, " ", tap.C, " of ", digitsOf(tap.Each))
}

// tapsText tells all fields of taps.
func tapsText(taps []impl.Tap) string {
	var lines []string
	for _, tap := range taps {
		lines = append(lines, tapText(tap))
	}
	return strings.Join(lines, "; ")
}

// expectTaps reports a failure, and taps that are not the same as they must be.
func expectTaps(t *testing.T, what string, got []impl.Tap, ok bool, want []impl.Tap) {
	t.Helper()
	if !ok {
		t.Errorf("%s: fails", what)
	}
	expect(t, what, tapsText(got), tapsText(want))
}

// tapsAt returns taps at some buses, with steps that all differ.
func tapsAt(buses ...int64) []impl.Tap {
	var taps []impl.Tap
	for i, bus := range buses {
		n := int64(i)
		taps = append(taps, impl.Tap{Bus: bus, A: 2 - n, B: n - 5, C: 3*n%17 - 1, Each: 0.004 * float32(i%3+1)})
	}
	return taps
}

// tapsOfAll returns taps at all buses but the root.
func tapsOfAll(count int) []impl.Tap {
	var buses []int64
	for bus := 1; bus < count; bus++ {
		buses = append(buses, int64(bus))
	}
	return tapsAt(buses...)
}

// someTaps are lists of taps of a feeder with so many buses.
func someTaps(count int) [][]impl.Tap {
	lists := [][]impl.Tap{nil, {}, tapsOfAll(count)}
	for bus := 1; bus < count; bus++ {
		lists = append(lists, tapsAt(int64(bus)))
	}
	if count > 2 {
		ends := tapsAt(1, int64(count-1))
		ends[0].A, ends[0].B, ends[1].C, ends[1].Each = impl.MaxSteps, -impl.MaxSteps, impl.MaxSteps, 1.0/16
		lists = append(lists, ends)
	}
	return lists
}

// changedTaps returns taps with a change of one of them.
func changedTaps(taps []impl.Tap, at int, change func(tap *impl.Tap)) []impl.Tap {
	changed := append([]impl.Tap{}, taps...)
	change(&changed[at])
	return changed
}

// wrongSteps are steps beyond the limit.
func wrongSteps() []int64 {
	return []int64{-17, 17, -18, 18, 1 << 32, math.MinInt64, math.MaxInt64}
}

// wrongEach are numbers that cannot be the Each of a tap.
func wrongEach() []float32 {
	return []float32{
		-leastSubnormal, -0.01, -1.0 / 16, math.Nextafter32(1.0/16, 1), 0.0626, 1, greatestNumber,
		positiveInfinity, negativeInfinity, notANumber,
	}
}

// wrongBounds are numbers that can be neither a target nor a band.
func wrongBounds() []float32 {
	return []float32{-leastSubnormal, -1, -greatestNumber, positiveInfinity, negativeInfinity, notANumber}
}

// wrongTap are taps with steps or an Each that none can have, each for one reason.
func wrongTap(bus int64) map[string]impl.Tap {
	wrong := map[string]impl.Tap{}
	for _, steps := range wrongSteps() {
		wrong[fmt.Sprint("A ", steps)] = impl.Tap{Bus: bus, A: steps, B: 1, C: 1, Each: 0.01}
		wrong[fmt.Sprint("B ", steps)] = impl.Tap{Bus: bus, B: steps, Each: 0.01}
		wrong[fmt.Sprint("C ", steps)] = impl.Tap{Bus: bus, A: 16, B: -16, C: steps}
	}
	for _, each := range wrongEach() {
		wrong[fmt.Sprint("Each ", each)] = impl.Tap{Bus: bus, A: 1, B: 2, C: 3, Each: each}
		wrong[fmt.Sprint("no steps, but Each ", each)] = impl.Tap{Bus: bus, Each: each}
	}
	return wrong
}

// wrongTaps are lists that are no taps of a feeder with so many buses, which are at least 4.
func wrongTaps(count int) map[string][]impl.Tap {
	good := tapsAt(1, 2, 3)
	wrong := map[string][]impl.Tap{
		"the same bus twice":       tapsAt(1, 1),
		"the same bus at the end":  tapsAt(1, 2, 2),
		"another order":            tapsAt(2, 1),
		"another order at the end": tapsAt(1, 3, 2),
		"a bus more":               append(tapsOfAll(count), impl.Tap{Bus: int64(count)}),
		"1000 taps":                tapsOfAll(1000),
	}
	for at := range good {
		for _, bus := range append(absentBuses(treeOf(rowParents(count))), 0) {
			wrong[fmt.Sprint("the bus ", bus, " at ", at)] = changedTaps(good, at, func(tap *impl.Tap) { tap.Bus = bus })
			wrong[fmt.Sprint("the bus ", bus, " alone")] = tapsAt(bus)
		}
		for what, tap := range wrongTap(good[at].Bus) {
			wrong[fmt.Sprint(what, " at ", at)] = changedTaps(good, at, func(other *impl.Tap) { *other = tap })
		}
	}
	return wrong
}

// sweptTaps returns the flow of SweepTaps, which must not fail.
func sweptTaps(t *testing.T, f impl.Feeder, taps []impl.Tap, voltages []impl.Phases) impl.Flow {
	t.Helper()
	flow, ok := impl.SweepTaps(f, taps, voltages)
	if !ok {
		t.Fatalf("SweepTaps with %s: fails", tapsText(taps))
	}
	return flow
}

// runTaps returns the flow of RunTaps, which must not fail.
func runTaps(t *testing.T, f impl.Feeder, taps []impl.Tap, rounds int64) impl.Flow {
	t.Helper()
	flow, ok := impl.RunTaps(f, taps, rounds)
	if !ok {
		t.Fatalf("RunTaps of %d rounds with %s: fails", rounds, tapsText(taps))
	}
	return flow
}

// stepped returns StepTap, which must not fail.
func stepped(t *testing.T, tap impl.Tap, voltage impl.Phases, target, band float32) impl.Tap {
	t.Helper()
	next, ok := impl.StepTap(tap, voltage, target, band)
	if !ok {
		t.Fatalf("StepTap %s: fails", tapText(tap))
	}
	return next
}

// inBand returns InBand, which must not fail.
func inBand(t *testing.T, f impl.Feeder, flow impl.Flow, target, band float32) []int64 {
	t.Helper()
	set, ok := impl.InBand(f, flow, target, band)
	if !ok {
		t.Fatalf("InBand of %v and %v: fails", target, band)
	}
	return set
}

// around returns NextFeeder, which must not fail.
func around(t *testing.T, f impl.Feeder) impl.Feeder {
	t.Helper()
	next, ok := impl.NextFeeder(f)
	if !ok {
		t.Fatalf("NextFeeder: fails")
	}
	return next
}

// sameThree returns phases with three equal numbers.
func sameThree(x complex64) impl.Phases {
	return impl.Phases{A: x, B: x, C: x}
}
