package tests

import (
	"fmt"
	"math"
	"testing"

	"loop.example/g01212/impl"
)

// Promise 6: the steps of each phase follow its own voltage, and only beyond the band.
func TestStepTap(t *testing.T) {
	above, below := func(x float32) float32 { return math.Nextafter32(x, 1e38) }, func(x float32) float32 { return math.Nextafter32(x, -1) }
	cases := []struct {
		voltage, target, band float32
		want                  int64
	}{
		{7, 8, 0.5, 1}, {9, 8, 0.5, -1}, {8, 8, 0.5, 0}, {7.5, 8, 0.5, 0}, {8.5, 8, 0.5, 0},
		{below(7.5), 8, 0.5, 1}, {above(8.5), 8, 0.5, -1}, {8, 8, 0, 0}, {below(8), 8, 0, 1}, {above(8), 8, negativeZero, -1},
		{0, 8, 9, 0}, {0, 8, 8, 0}, {0, 8, below(8), 1}, {17, 8, 9, 0}, {above(17), 8, 9, -1},
		{0, 0, 0, 0}, {leastSubnormal, 0, 0, -1}, {0, negativeZero, negativeZero, 0}, {leastSubnormal, 0, leastSubnormal, 0},
		{notANumber, 8, 0.5, 0}, {notANumber, 0, 0, 0}, {positiveInfinity, 8, 0.5, -1}, {positiveInfinity, greatestNumber, greatestNumber, 0},
		{positiveInfinity, greatestNumber, 0, -1}, {greatestNumber, greatestNumber, 1, 0}, {greatestNumber, greatestNumber, 0, 0},
		{0, greatestNumber, greatestNumber, 0}, {0, 0, greatestNumber, 0}, {0, greatestNumber, 1, 1},
		{1 - 1.0/(1<<24), 1, 1.0/(1<<24) - 1.0/(1<<27), 0}, {1 + 1.0/(1<<23), 1, 1.0/(1<<23) - 1.0/(1<<26), 0},
	}
	for _, c := range cases {
		for place := range 3 {
			tap := impl.Tap{Bus: 5, A: 3, B: -4, C: 0, Each: negativeZero}
			want := tap
			*stepsAt(&want, place) += c.want
			voltage := placed(complex(c.voltage, 0), place, complex(c.target, 0))
			what := fmt.Sprint("StepTap at ", c.voltage, " to ", c.target, ", ", c.band)
			expect(t, what, tapText(stepped(t, tap, voltage, c.target, c.band)), tapText(want))
		}
	}
}

// Promise 6: it is the absolute value of a voltage that counts, and its phases are apart.
func TestStepTapOfAbsoluteValues(t *testing.T) {
	tap := impl.Tap{Bus: 3, A: 1, B: 1, C: 1, Each: 0.01}
	voltage := impl.Phases{A: complex(-3, 4), B: complex(0, -9), C: complex(2, 2)}
	expect(t, "StepTap", tapText(stepped(t, tap, voltage, 5, 1)), tapText(impl.Tap{Bus: 3, A: 1, B: 0, C: 2, Each: 0.01}))
	expect(t, "StepTap", tapText(stepped(t, tap, voltage, 9, 1)), tapText(impl.Tap{Bus: 3, A: 2, B: 1, C: 2, Each: 0.01}))
	expect(t, "StepTap", tapText(stepped(t, tap, voltage, 1, 1)), tapText(impl.Tap{Bus: 3, A: 0, B: 0, C: 0, Each: 0.01}))
	document := stepped(t, impl.Tap{Bus: 1, A: 2, C: -1, Each: 0.0625}, impl.Phases{A: 7, B: 8, C: 9}, 8, 0.5)
	expect(t, "StepTap of the document", tapText(document), tapText(impl.Tap{Bus: 1, A: 3, C: -2, Each: 0.0625}))
}

// Promise 6: steps go no further than their ends, from which they come back.
func TestStepsAtTheirEnds(t *testing.T) {
	for place := range 3 {
		for steps := int64(-16); steps <= 16; steps++ {
			tap := impl.Tap{Bus: 1, Each: 1.0 / 16}
			*stepsAt(&tap, place) = steps
			for voltage, more := range map[float32]int64{7: 1, 8: 0, 9: -1} {
				want := tap
				*stepsAt(&want, place) = max(-16, min(16, steps+more))
				got := stepped(t, tap, placed(complex(0, voltage), place, 8), 8, 0.5)
				expect(t, "StepTap at an end", tapText(got), tapText(want))
			}
		}
	}
	for _, bus := range []int64{0, -1, 77, math.MinInt64, math.MaxInt64} {
		got := stepped(t, impl.Tap{Bus: bus, A: 16, B: -16}, impl.Phases{A: 7, B: 9, C: 7}, 8, 0)
		expect(t, "StepTap at any bus", tapText(got), tapText(impl.Tap{Bus: bus, A: 16, B: -16, C: 1}))
	}
}

// autoTaps makes StepTap of all taps again and again.
func autoTaps(t *testing.T, f impl.Feeder, taps []impl.Tap, target, band float32, rounds, most int64) ([]impl.Tap, int64) {
	t.Helper()
	changes := int64(0)
	for range most {
		flow := runTaps(t, f, taps, rounds)
		var next []impl.Tap
		some := int64(0)
		for _, tap := range taps {
			now := stepped(t, tap, flow.Voltages[tap.Bus], target, band)
			if now.A != tap.A || now.B != tap.B || now.C != tap.C {
				some++
			}
			next = append(next, now)
		}
		if some == 0 {
			break
		}
		taps, changes = next, changes+some
	}
	return taps, changes
}

// checkAutoTaps compares AutoTaps with what must come of them.
func checkAutoTaps(t *testing.T, f impl.Feeder, taps []impl.Tap, target, band float32, rounds, most int64, want []impl.Tap, wantChanges int64) {
	t.Helper()
	got, changes, ok := impl.AutoTaps(f, taps, target, band, rounds, most)
	what := fmt.Sprint("AutoTaps to ", target, ", ", band, " with ", rounds, ", ", most)
	expectTaps(t, what, got, ok, want)
	if changes != wantChanges {
		t.Errorf("%s: got %d changes, want %d", what, changes, wantChanges)
	}
}

// Promise 6: taps follow their voltages as StepTap tells, all at once.
func TestAutoTaps(t *testing.T) {
	feeders := append(oddFeeders()[:12], gentle([]int64{-1}), gentle([]int64{-1, 0}), gentle(rowParents(16)), gentle(starParents(6)), gentle([]int64{-1, 0, 0, 1, 1}))
	for _, f := range feeders {
		for _, list := range someTaps(len(f.Buses)) {
			for _, band := range []float32{0, 1, 30} {
				for _, most := range []int64{0, 1, 2, 7, 40} {
					want, changes := autoTaps(t, f, list, 240, band, 3, most)
					checkAutoTaps(t, f, list, 240, band, 3, most, want, changes)
				}
			}
		}
	}
}

// rowWithoutLoads is a row of three buses, all of which have the voltages 8 without taps.
func rowWithoutLoads() impl.Feeder {
	return impl.Feeder{Source: sameThree(8), Buses: []impl.Bus{{Parent: -1}, {Parent: 0, Own: 1}, {Parent: 1, Own: 1}}}
}

// allSteps returns a tap with three equal steps.
func allSteps(bus, steps int64) impl.Tap {
	return impl.Tap{Bus: bus, A: steps, B: steps, C: steps, Each: 1.0 / 16}
}

// Promise 6: taps stop when none changes, and each change of a tap counts, whatever its phases do.
func TestAutoTapsThatStop(t *testing.T) {
	f := rowWithoutLoads()
	start, behind := []impl.Tap{allSteps(1, 0), allSteps(2, 0)}, []impl.Tap{allSteps(1, 2), allSteps(2, 1)}
	checkAutoTaps(t, f, start, 10, 1, 3, 0, start, 0)
	checkAutoTaps(t, f, start, 10, 1, 3, 1, []impl.Tap{allSteps(1, 1), allSteps(2, 1)}, 2)
	for most := int64(2); most <= 40; most++ {
		checkAutoTaps(t, f, start, 10, 1, 3, most, behind, 3)
	}
	checkAutoTaps(t, f, behind, 10, 1, 3, 40, behind, 0)
	one := []impl.Tap{{Bus: 2, A: 0, B: 1, C: 2, Each: 1.0 / 16}}
	checkAutoTaps(t, f, one, 8.5, 0, 1, 40, []impl.Tap{allSteps(2, 1)}, 1)
	checkAutoTaps(t, f, nil, 10, 1, 1, 40, nil, 0)
	checkAutoTaps(t, f, []impl.Tap{}, 10, 1, 50, 0, nil, 0)
}

// Promise 6: taps that would never stop do so behind so many times, and taps at their ends have stopped.
func TestAutoTapsThatGoOn(t *testing.T) {
	f := rowWithoutLoads()
	for most := range int64(41) {
		back := []impl.Tap{allSteps(1, most%2)}
		checkAutoTaps(t, f, []impl.Tap{allSteps(1, 0)}, 8.25, 0, 2, most, back, most)
		up, down := min(most, 16), min(most, 19)
		checkAutoTaps(t, f, []impl.Tap{allSteps(2, 0)}, 100, 1, 2, most, []impl.Tap{allSteps(2, up)}, up)
		checkAutoTaps(t, f, []impl.Tap{allSteps(2, 3)}, 0, negativeZero, 2, most, []impl.Tap{allSteps(2, 3-down)}, down)
		none := impl.Tap{Bus: 1, A: 14, B: -16, C: 16}
		want := none
		want.A, want.B = 14+min(most, 2), -16+min(most, 32)
		checkAutoTaps(t, f, []impl.Tap{none}, 9, 0, 2, most, []impl.Tap{want}, min(most, 32))
	}
}

// Promise 6: taps do not follow voltages that are not-a-numbers.
func TestAutoTapsOfNotANumbers(t *testing.T) {
	f := rowWithoutLoads()
	f.Source = impl.Phases{A: complex(notANumber, 0), B: complex(1, notANumber), C: 8}
	for _, most := range []int64{0, 1, 40} {
		checkAutoTaps(t, f, []impl.Tap{allSteps(1, 0)}, 8, 0, 5, most, []impl.Tap{allSteps(1, 0)}, 0)
	}
	checkAutoTaps(t, f, []impl.Tap{allSteps(2, 3)}, 8, 1, 5, 40, []impl.Tap{{Bus: 2, A: 3, B: 3, C: 2, Each: 1.0 / 16}}, 1)
}

// Promise 6: buses are in a band if none of their voltages is beyond it.
func TestInBand(t *testing.T) {
	list := []impl.Phases{
		sameThree(8), {A: 7.5, B: 8.5, C: 8}, {A: complex(0, -8), B: -8, C: 8}, sameThree(complex(notANumber, 1)),
		{A: 7, B: 8, C: 8}, {A: 8, B: 9, C: 8}, {A: 8, B: 8, C: complex(positiveInfinity, 1)}, {A: 8, B: complex(0, notANumber), C: 7.5},
	}
	cases := []struct {
		target, band float32
		want         []int64
	}{
		{8, 0.5, []int64{0, 1, 2, 3, 7}}, {8, 0, []int64{0, 2, 3}}, {8, 1, []int64{0, 1, 2, 3, 4, 5, 7}}, {8, 100, []int64{0, 1, 2, 3, 4, 5, 7}},
		{8, math.Nextafter32(0.5, 0), []int64{0, 1, 2, 3, 7}}, {8, 0.4999, []int64{0, 2, 3}}, {100, 1, []int64{3}}, {0, 0, []int64{3}}, {0, 1, []int64{3}}, {0, 8, []int64{0, 2, 3, 4, 7}},
		{negativeZero, 9, []int64{0, 1, 2, 3, 4, 5, 7}}, {greatestNumber, greatestNumber, []int64{0, 1, 2, 3, 4, 5, 6, 7}}, {greatestNumber, 0, []int64{3}},
	}
	for _, parents := range [][]int64{rowParents(8), starParents(8)} {
		for _, c := range cases {
			flow := flowOf(list)
			expectList(t, fmt.Sprint("InBand of ", c.target, " and ", c.band), inBand(t, treeOf(parents), flow, c.target, c.band), true, c.want)
		}
	}
	tiny := flowOf([]impl.Phases{{A: complex(leastSubnormal, 0)}, {}})
	expectList(t, "InBand of zeros", inBand(t, treeOf([]int64{-1, 0}), tiny, 0, 0), true, []int64{1})
}

// Promise 6: a bus is in a band that none or all meet just as a tap there would not follow its voltage.
func TestInBandOfOddPhases(t *testing.T) {
	for _, count := range []int{1, 5, 16} {
		for _, flow := range oddFlows(count) {
			for _, target := range []float32{0, 1, 3.7, 200, greatestNumber} {
				for _, band := range []float32{0, leastSubnormal, 2, 300, greatestNumber} {
					var want []int64
					for bus, voltage := range flow.Voltages {
						if stepped(t, impl.Tap{}, voltage, target, band) == (impl.Tap{}) {
							want = append(want, int64(bus))
						}
					}
					expectList(t, "InBand", inBand(t, treeOf(rowParents(count)), flow, target, band), true, want)
				}
			}
		}
	}
}
