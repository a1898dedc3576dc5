package tests

import (
	"fmt"
	"math"
	"testing"

	"loop.example/g01212/impl"
)

// stepsAt returns where the steps of a phase of a tap stand.
func stepsAt(tap *impl.Tap, place int) *int64 {
	return [3]*int64{&tap.A, &tap.B, &tap.C}[place]
}

// Promise 6: taps have increasing buses behind the root, and steps and an Each within their limits.
func TestAreTaps(t *testing.T) {
	for _, parents := range someParents() {
		f := treeOf(parents)
		for _, taps := range someTaps(len(parents)) {
			if !impl.AreTaps(f, taps) {
				t.Errorf("AreTaps: %s are none of %d buses", tapsText(taps), len(parents))
			}
		}
	}
	for _, steps := range []int64{-16, -15, 0, 15, 16} {
		for _, each := range []float32{0, negativeZero, leastSubnormal, 0.01, math.Nextafter32(1.0/16, 0), 1.0 / 16} {
			for place := range 3 {
				taps := []impl.Tap{{Bus: 2, Each: each}, {Bus: 3, Each: each}}
				*stepsAt(&taps[place%2], place) = steps
				if !impl.AreTaps(treeOf(rowParents(4)), taps) {
					t.Errorf("AreTaps: %s are none", tapsText(taps))
				}
			}
		}
	}
}

// Promise 6: lists that differ in one thing from taps of a feeder are none.
func TestAreNoTaps(t *testing.T) {
	for _, count := range []int{4, 5, 15, 16} {
		for what, taps := range wrongTaps(count) {
			for _, parents := range [][]int64{rowParents(count), starParents(count)} {
				if impl.AreTaps(treeOf(parents), taps) {
					t.Errorf("AreTaps with %s at %d buses: true", what, count)
				}
			}
		}
	}
	for what, f := range wrongFeeders() {
		for _, taps := range [][]impl.Tap{nil, {}, tapsAt(1), tapsAt(1, 2)} {
			if impl.AreTaps(f, taps) {
				t.Errorf("AreTaps with %s: true", what)
			}
		}
	}
	for _, bus := range []int64{-1, 0, 1, 2} {
		if impl.AreTaps(treeOf([]int64{-1}), tapsAt(bus)) {
			t.Errorf("AreTaps at %d of a root alone: true", bus)
		}
	}
}

// anyTaps are taps with any fields, each of which differs from all others.
func anyTaps() []impl.Tap {
	taps := []impl.Tap{{}, {Bus: 1}, {Bus: -1}, {A: 1}, {B: 1}, {C: 1}, {A: -1}, {Bus: math.MinInt64, A: math.MaxInt64, B: math.MinInt64, C: 77}}
	for _, x := range oddNumbers()[1:] {
		taps = append(taps, impl.Tap{Each: x}, impl.Tap{Bus: 3, A: 1, B: 2, C: 3, Each: x})
	}
	return taps
}

// Promise 6: taps are the same if all of their fields are, whether they are taps of a feeder or not.
func TestSameTaps(t *testing.T) {
	for i, a := range anyTaps() {
		for j, b := range anyTaps() {
			lists := [][2][]impl.Tap{{{a}, {b}}, {{a, {Bus: 1}}, {b, {Bus: 1}}}, {{{Bus: 1}, a}, {{Bus: 1}, b}}}
			for _, list := range lists {
				if impl.SameTaps(list[0], list[1]) != (i == j) {
					t.Errorf("SameTaps %s, %s: %v", tapsText(list[0]), tapsText(list[1]), i != j)
				}
			}
			if impl.SameTaps([]impl.Tap{a, b}, []impl.Tap{b, a}) != (i == j) {
				t.Errorf("SameTaps in another order, %s, %s: %v", tapText(a), tapText(b), i != j)
			}
		}
		for _, other := range [][]impl.Tap{nil, {}, {a, a}} {
			if impl.SameTaps([]impl.Tap{a}, other) || impl.SameTaps(other, []impl.Tap{a}) {
				t.Errorf("SameTaps of %s and %d others: true", tapText(a), len(other))
			}
		}
	}
	if !impl.SameTaps(nil, nil) || !impl.SameTaps(nil, []impl.Tap{}) || !impl.SameTaps(anyTaps(), anyTaps()) {
		t.Errorf("SameTaps of equal lists: false")
	}
}

// Promise 6: the ratios of the document's example, and those at the ends.
func TestRatiosOf(t *testing.T) {
	cases := []struct {
		tap  impl.Tap
		want []float32
	}{
		{impl.Tap{A: 2, C: -1, Each: 1.0 / 16}, []float32{1.125, 1, 0.9375}},
		{impl.Tap{A: 16, B: -16, C: 8, Each: 1.0 / 16}, []float32{2, 0, 1.5}},
		{impl.Tap{A: 16, B: -16, C: -1}, []float32{1, 1, 1}},
		{impl.Tap{A: 16, B: -16, C: -1, Each: negativeZero}, []float32{1, 1, 1}},
		{impl.Tap{Each: 1.0 / 16}, []float32{1, 1, 1}},
		{impl.Tap{Each: negativeZero}, []float32{1, 1, 1}},
		{impl.Tap{A: 16, B: -16, C: 1, Each: leastSubnormal}, []float32{1, 1, 1}},
	}
	for _, c := range cases {
		for _, bus := range []int64{0, 1, -1, 77, math.MinInt64, math.MaxInt64} {
			c.tap.Bus = bus
			ratios, ok := impl.RatiosOf(c.tap)
			expect(t, fmt.Sprint("RatiosOf ", tapText(c.tap), ok), tellNumbers(ratios), tellNumbers(c.want))
		}
	}
}

// Promise 6: phases are turned by any three numbers, each phase by its own one.
func TestTurnPhases(t *testing.T) {
	numbers := oddNumbers()
	for i, p := range oddPhases() {
		for j, x := range numbers {
			ratios := []float32{x, numbers[(i+j+1)%len(numbers)], numbers[(3*j+i+2)%len(numbers)]}
			want := impl.Phases{A: impl.ScaleComplex(p.A, ratios[0]), B: impl.ScaleComplex(p.B, ratios[1]), C: impl.ScaleComplex(p.C, ratios[2])}
			turned, ok := impl.TurnPhases(p, ratios)
			expectPhases(t, fmt.Sprint("TurnPhases by ", ratios, ok), turned, want)
		}
		turned, ok := impl.TurnPhases(p, []float32{1, 1, 1})
		expectPhases(t, fmt.Sprint("TurnPhases by ones ", ok), turned, p)
	}
	turned, ok := impl.TurnPhases(impl.Phases{A: complex(1, 2), B: complex(3, -4), C: 5}, []float32{2, -1, 0.5})
	expectPhases(t, fmt.Sprint("TurnPhases ", ok), turned, impl.Phases{A: complex(2, 4), B: complex(-3, 4), C: 2.5})
}

// Promise 6: the phases of taps go around, and are where they were behind three times, whatever the taps are.
func TestNextTaps(t *testing.T) {
	expectTaps(t, "NextTaps", impl.NextTaps([]impl.Tap{{Bus: 1, A: 2, B: 3, C: 4, Each: 0.5}, {Bus: 0, A: 5, B: 6, C: 7, Each: -1}}), true,
		[]impl.Tap{{Bus: 1, A: 4, B: 2, C: 3, Each: 0.5}, {Bus: 0, A: 7, B: 5, C: 6, Each: -1}})
	for _, taps := range append(someTaps(16), anyTaps()) {
		expectTaps(t, "NextTaps three times", impl.NextTaps(impl.NextTaps(impl.NextTaps(taps))), true, taps)
	}
	if next := impl.NextTaps(nil); len(next) > 0 {
		t.Errorf("NextTaps of none: got %s", tapsText(next))
	}
	for _, tap := range anyTaps() {
		want := impl.Tap{Bus: tap.Bus, A: tap.C, B: tap.A, C: tap.B, Each: tap.Each}
		expectTaps(t, "NextTaps", impl.NextTaps([]impl.Tap{tap}), true, []impl.Tap{want})
	}
}
