package tests

import (
	"fmt"
	"math"
	"testing"

	"loop.example/g01212/impl"
)

// Promise 4: rounds are made one after another, each at the voltages of the one before.
func TestRunSweeps(t *testing.T) {
	feeders := append(oddFeeders(), halving(0.5), halving(1), halving(4), treeOf([]int64{-1}), gentle(rowParents(16)), gentle(starParents(16)))
	for _, f := range feeders {
		flat := repeated(f.Source, len(f.Buses))
		want := impl.Flow{Voltages: flat, Currents: repeated(impl.Phases{}, len(f.Buses))}
		for rounds := range int64(51) {
			expectFlow(t, fmt.Sprint("RunSweeps of ", rounds), run(t, f, flat, rounds), true, want)
			next, ok := impl.SweepOnce(f, want.Voltages)
			if !ok || next.Rounds != 1 || next.Rests {
				t.Errorf("SweepOnce: got %d rounds, %v, %v", next.Rounds, next.Rests, ok)
			}
			next.Rounds = rounds + 1
			want = next
		}
	}
}

// Promise 4: rounds can begin where others have ended.
func TestRunSweepsOn(t *testing.T) {
	for _, parents := range someParents() {
		f := gentle(parents)
		voltages := repeated(impl.Phases{A: 200, B: complex(-100, -180), C: complex(-90, 170)}, len(parents))
		whole := run(t, f, voltages, 5)
		parts := run(t, f, run(t, f, voltages, 2).Voltages, 3)
		parts.Rounds = 5
		expectFlow(t, "RunSweeps in two parts", parts, true, whole)
	}
}

// Promise 4: no rounds leave any voltages as they are, and have currents of +0.
func TestNoRounds(t *testing.T) {
	for _, p := range oddPhases() {
		f := treeOf([]int64{-1, 0, 1})
		f.Source, f.Buses[1].Load = p, p
		voltages := []impl.Phases{p, impl.NextPhases(p), {A: complex(negativeZero, 1)}}
		want := impl.Flow{Voltages: voltages, Currents: repeated(impl.Phases{}, 3)}
		expectFlow(t, "RunSweeps of 0", run(t, f, voltages, 0), true, want)
	}
}

// restOf returns the first round behind which voltages change by at most near,
// and 0 if this does not come.
func restOf(t *testing.T, f impl.Feeder, rounds int64, near float32) int64 {
	t.Helper()
	for n := int64(1); n <= rounds; n++ {
		flat := repeated(f.Source, len(f.Buses))
		if change(t, run(t, f, flat, n-1).Voltages, run(t, f, flat, n).Voltages) <= near {
			return n
		}
	}
	return 0
}

// Promise 4: solving makes rounds from flat voltages on until they rest or give up.
func TestSolveFeeder(t *testing.T) {
	feeders := append(oddFeeders(), halving(0.5), halving(-0.5), halving(0.75), halving(1), halving(4), treeOf([]int64{-1}),
		gentle(rowParents(16)), gentle(starParents(16)), gentle([]int64{-1, 0, 1, 1, 2}))
	for i, f := range feeders {
		for _, rounds := range []int64{1, 2, 3, 7, 49, 50} {
			for _, near := range []float32{0, negativeZero, leastSubnormal, 0.01, 1, 300, greatestNumber} {
				want := run(t, f, repeated(f.Source, len(f.Buses)), rounds)
				if rest := restOf(t, f, rounds, near); rest > 0 {
					want = run(t, f, repeated(f.Source, len(f.Buses)), rest)
					want.Rests = true
				}
				what := fmt.Sprint("SolveFeeder ", i, " in ", rounds, " rounds to ", near)
				expectFlow(t, what, solved(t, f, rounds, near), true, want)
			}
		}
	}
}

// Promise 4: the change that makes rounds rest can reach the bound exactly.
func TestRestAtTheBound(t *testing.T) {
	below := math.Nextafter32(1, 0)
	cases := []struct {
		rounds, wantRounds int64
		near               float32
		wantRests          bool
		want               complex64
	}{
		{1, 1, 4, true, 4}, {1, 1, 3.9, false, 4}, {50, 1, 4, true, 4}, {50, 1, 7, true, 4},
		{2, 2, 1, false, 6}, {3, 3, 1, true, 5}, {4, 3, 1, true, 5}, {50, 3, 1, true, 5},
		{3, 3, below, false, 5}, {4, 4, below, true, 5.5}, {50, 4, 0.5, true, 5.5}, {5, 5, 0, false, 5.25},
	}
	for _, c := range cases {
		flow := solved(t, halving(0.5), c.rounds, c.near)
		if flow.Rounds != c.wantRounds || flow.Rests != c.wantRests || flow.Voltages[1].A != c.want {
			t.Errorf("SolveFeeder %d, %v: got %d, %v, %v", c.rounds, c.near, flow.Rounds, flow.Rests, flow.Voltages[1].A)
		}
	}
}

// Promise 4: rounds that go back and forth, or away, give up at their limit.
func TestRoundsThatDoNotRest(t *testing.T) {
	for rounds := int64(1); rounds <= 50; rounds++ {
		flow := solved(t, halving(1), rounds, 7.9)
		want := complex64(8 - 8*complex(float32(rounds%2), 0))
		if flow.Rounds != rounds || flow.Rests || flow.Voltages[1].A != want {
			t.Errorf("SolveFeeder back and forth: got %d, %v, %v", flow.Rounds, flow.Rests, flow.Voltages[1].A)
		}
		flow = solved(t, halving(-1e6), rounds, greatestNumber)
		if flow.Rests != (rounds >= 1) || flow.Rounds != 1 {
			t.Errorf("SolveFeeder with the greatest bound: got %d, %v", flow.Rounds, flow.Rests)
		}
		flow = solved(t, halving(-1e6), rounds, 7)
		if flow.Rests || flow.Rounds != rounds {
			t.Errorf("SolveFeeder away: got %d, %v", flow.Rounds, flow.Rests)
		}
	}
	for _, x := range []float32{positiveInfinity, negativeInfinity, notANumber} {
		f := treeOf([]int64{-1, 0})
		f.Source.B = complex(1, x)
		for _, only := range []impl.Feeder{f, {Source: f.Source, Buses: f.Buses[:1]}} {
			flow := solved(t, only, 50, greatestNumber)
			if flow.Rests || flow.Rounds != 50 {
				t.Errorf("SolveFeeder with the source %v: got %d, %v", x, flow.Rounds, flow.Rests)
			}
		}
	}
}

// Promise 4: a root alone rests at once, with its load as the current.
func TestRootAlone(t *testing.T) {
	f := impl.Feeder{Source: impl.Phases{A: 8, B: 4, C: 2}, Buses: []impl.Bus{{Parent: -1, Kind: impl.LoadImpedance, Load: impl.Phases{A: 2, B: 1}}}}
	want := impl.Flow{Voltages: []impl.Phases{f.Source}, Currents: []impl.Phases{{A: 4, B: 4}}, Rounds: 1, Rests: true}
	expectFlow(t, "SolveFeeder of a root", solved(t, f, 1, 0), true, want)
	expectFlow(t, "SolveFeeder of a root", solved(t, f, 50, negativeZero), true, want)
}

// Promise 4: the change is the greatest one of all phases, of a less b.
func TestChangeOf(t *testing.T) {
	for _, count := range []int{1, 2, 16, 17, 255, 256} {
		for _, at := range []int{0, count / 2, count - 1} {
			for place := range 3 {
				a, b := repeated(impl.Phases{A: 1, B: 1, C: 1}, count), repeated(impl.Phases{A: 1, B: 2, C: 1}, count)
				b[at] = placed(complex(1-3, 4), place, 1)
				expectNumber(t, "ChangeOf", change(t, a, b), 5)
				expectNumber(t, "ChangeOf turned around", change(t, b, a), 5)
				b[at] = placed(complex(notANumber, 4), place, 99)
				expectNumber(t, "ChangeOf with a not-a-number", change(t, a, b), notANumber)
				b[at] = placed(complex(0, negativeInfinity), place, 1)
				expectNumber(t, "ChangeOf with an infinity", change(t, a, b), positiveInfinity)
			}
		}
		same := repeated(impl.Phases{A: complex(negativeZero, -1), B: 0.1, C: complex(7, leastSubnormal)}, count)
		expectNumber(t, "ChangeOf the same", change(t, same, same), 0)
	}
	expectNumber(t, "ChangeOf empty lists", change(t, nil, []impl.Phases{}), 0)
	inf := []impl.Phases{{A: complex(positiveInfinity, 0)}, {A: 100}}
	expectNumber(t, "ChangeOf equal infinities", change(t, inf, inf), notANumber)
	turned := []impl.Phases{{A: complex(negativeInfinity, 0)}, {B: complex(positiveInfinity, 0)}}
	expectNumber(t, "ChangeOf other infinities", change(t, inf, turned), positiveInfinity)
	far := []impl.Phases{{B: complex(greatestNumber, 0)}}
	expectNumber(t, "ChangeOf far numbers", change(t, far, []impl.Phases{{B: complex(-greatestNumber, 0)}}), positiveInfinity)
	expectNumber(t, "ChangeOf rounded differences", change(t, []impl.Phases{{C: greatOdd}}, []impl.Phases{{C: -1}}), greatOdd)
}

// Promise 4: the change is what LongOf tells, for all pairs of odd phases.
func TestChangeOfOddPhases(t *testing.T) {
	for _, p := range oddPhases() {
		for _, q := range oddPhases() {
			want := float32(0)
			for place := range 3 {
				long := impl.LongOf(phaseAt(p, place) - phaseAt(q, place))
				if long != long || long > want {
					want = long
				}
				if want != want {
					break
				}
			}
			expectNumber(t, "ChangeOf", change(t, []impl.Phases{p}, []impl.Phases{q}), want)
		}
	}
}

// Promise 1: lists of another length, or beyond the limit, make ChangeOf fail.
func TestChangeOfFails(t *testing.T) {
	for _, lengths := range [][2]int{{0, 1}, {1, 0}, {1, 2}, {2, 1}, {256, 255}, {255, 256}, {256, 257}, {257, 256}, {257, 257}, {1000, 1000}} {
		number, ok := impl.ChangeOf(repeated(impl.Phases{A: 1}, lengths[0]), repeated(impl.Phases{A: 3}, lengths[1]))
		expectFailure(t, fmt.Sprint("ChangeOf lists of ", lengths), digitsOf(number) == digitsOf(0), ok)
	}
}

// Promise 4: the rest of a flow is what one more round would change, whatever the rest of it is.
func TestRestOf(t *testing.T) {
	for _, f := range append(oddFeeders(), halving(0.5), halving(1), halving(4), gentle(rowParents(16)), treeOf([]int64{-1})) {
		for rounds := range int64(4) {
			flow := run(t, f, repeated(f.Source, len(f.Buses)), rounds)
			want := change(t, flow.Voltages, run(t, f, flow.Voltages, 1).Voltages)
			flow.Currents = repeated(impl.Phases{A: complex(notANumber, 7), B: 5}, len(f.Buses))
			for _, count := range []int64{0, 50} {
				flow.Rounds, flow.Rests = count, !flow.Rests
				rest, ok := impl.RestOf(f, flow)
				if !ok {
					t.Errorf("RestOf: fails")
				}
				expectNumber(t, "RestOf", rest, want)
			}
		}
	}
	flow := solved(t, halving(0.5), 3, 1)
	rest, ok := impl.RestOf(halving(0.5), flow)
	if !ok || rest != 0.5 {
		t.Errorf("RestOf: got %v, %v", rest, ok)
	}
}
