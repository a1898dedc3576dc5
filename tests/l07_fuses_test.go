package tests

import (
	"fmt"
	"math"
	"testing"

	"loop.example/g01212/impl"
)

// Promise 8: fuses have finite numbers, a limit greater than 0, and nothing less than 0.
func TestValidFuse(t *testing.T) {
	for _, x := range oddNumbers() {
		isAmount := x >= 0 && x <= greatestNumber
		cases := []struct {
			u    impl.Fuse
			want bool
		}{
			{impl.Fuse{Heat: x, Limit: 8, Cool: 1}, isAmount}, {impl.Fuse{Heat: 1, Limit: 8, Cool: x}, isAmount},
			{impl.Fuse{Heat: 1, Limit: x, Cool: 1}, isAmount && x != 0}, {impl.Fuse{Limit: x}, isAmount && x != 0},
		}
		for _, c := range cases {
			if impl.ValidFuse(c.u) != c.want {
				t.Errorf("ValidFuse %v: %v", c.u, !c.want)
			}
		}
	}
	for _, u := range wrongFuses() {
		if impl.ValidFuse(u) {
			t.Errorf("ValidFuse %v: true", u)
		}
	}
}

// expectHeat reports a failure, and a fuse that is not as hot as it must be, or has blown where it must not.
func expectHeat(t *testing.T, u impl.Fuse, current, ticks, want float32, wantBlown bool) {
	t.Helper()
	got, isBlown, ok := impl.HeatFuse(u, current, ticks)
	u.Heat = want
	what := fmt.Sprint("HeatFuse with ", current, " for ", ticks)
	expect(t, what, fmt.Sprint(fuseText(got), isBlown, ok), fmt.Sprint(fuseText(u), wantBlown, true))
}

// expectNoHeat reports a fuse that does not fail to get hot.
func expectNoHeat(t *testing.T, u impl.Fuse, current, ticks float32) {
	t.Helper()
	got, isBlown, ok := impl.HeatFuse(u, current, ticks)
	what := fmt.Sprint("HeatFuse ", fuseText(u), " with ", current, " for ", ticks)
	expectFailure(t, what, fuseText(got) == fuseText(impl.Fuse{}) && !isBlown, ok)
}

// Promise 8: fuses heat by the square of the current, cool, and blow from the limit on.
func TestHeatFuse(t *testing.T) {
	plain, warm := impl.Fuse{Limit: 8}, impl.Fuse{Heat: 3, Limit: 8, Cool: 2}
	cases := []struct {
		u                    impl.Fuse
		current, ticks, heat float32
		isBlown              bool
	}{
		{plain, 2, 1, 4, false}, {plain, 2, 2, 8, true}, {plain, -2, 2, 8, true}, {plain, 2, nextDown(2), nextDown(8), false}, {plain, 2, nextUp(2), nextUp(8), true},
		{plain, 0, 5, 0, false}, {plain, negativeZero, 5, 0, false}, {plain, 3, 0, 0, false}, {plain, 3, 1, 9, true}, {plain, 0.5, 4, 1, false},
		{warm, 0, 1, 1, false}, {warm, 0, 1.5, 0, false}, {warm, 0, 2, 0, false}, {warm, 0, 100, 0, false}, {warm, 1, 1, 2, false}, {warm, 1, 3, 0, false}, {warm, 1, 4, 0, false},
		{warm, 2, 1, 5, false}, {warm, 2, 2.5, 8, true}, {warm, 2, 2.25, 7.5, false}, {warm, 3, 1, 10, true}, {warm, 3, 0, 3, false}, {warm, 3, negativeZero, 3, false},
		{impl.Fuse{Heat: 8, Limit: 8}, 0, 0, 8, true}, {impl.Fuse{Heat: 8, Limit: 8}, 0, 3, 8, true}, {impl.Fuse{Heat: 9, Limit: 8, Cool: 1}, 0, 1, 8, true},
		{impl.Fuse{Heat: 9, Limit: 8, Cool: 1}, 0, 1.5, 7.5, false}, {impl.Fuse{Heat: 7, Limit: 8, Cool: 5}, 2, 1, 6, false},
		{impl.Fuse{Limit: leastSubnormal}, 0, 7, 0, false}, {impl.Fuse{Limit: leastSubnormal}, leastNormal, 7, 0, false}, {impl.Fuse{Limit: leastSubnormal}, 1, leastSubnormal, leastSubnormal, true},
		{impl.Fuse{Heat: leastSubnormal, Limit: 1, Cool: 1}, 0, leastSubnormal, 0, false},
	}
	for _, c := range cases {
		expectHeat(t, c.u, c.current, c.ticks, c.heat, c.isBlown)
	}
}

// heatOf returns the heat of a fuse behind some ticks, with each operation rounded.
func heatOf(u impl.Fuse, current, ticks float32) float32 {
	square := float32(current * current)
	more := float32(square * ticks)
	less := float32(u.Cool * ticks)
	heat := u.Heat + more
	heat = heat - less
	if heat < 0 {
		return 0
	}
	return heat
}

// Promise 8: each operation is rounded, the square first, and what is cooled is taken away in the end.
func TestHeatFuseRounds(t *testing.T) {
	for n := range 1000 {
		u := impl.Fuse{Heat: 0.1 * float32(n%37), Limit: 0.3 * float32(1+n%41), Cool: 0.7 * float32(n%11)}
		current, ticks := 0.01*float32(n), 0.3*float32(n%7)
		heat := heatOf(u, current, ticks)
		expectHeat(t, u, current, ticks, heat, heat >= u.Limit)
	}
	expectHeat(t, impl.Fuse{Heat: greatOdd, Limit: 100, Cool: 1}, 1, 1, greatOdd-1, true)
	expectHeat(t, impl.Fuse{Heat: 1, Limit: 100, Cool: greatOdd}, 4096, 1, 0, false)
	expectHeat(t, impl.Fuse{Heat: 1, Limit: 100, Cool: 4}, 1e-30, 1, 0, false)
	expectHeat(t, impl.Fuse{Heat: greatestNumber, Limit: 1}, 1, 1e30, greatestNumber, true)
	small := impl.Fuse{Limit: 100}
	heat := heatOf(small, 1e-20, 1e20)
	expectHeat(t, small, 1e-20, 1e20, heat, false)
	if rounded := float32(1e-20); heat == rounded {
		t.Errorf("a square of few bits: got %v", heat)
	}
}

// Promise 8: heat that is less than 0 becomes +0, also if it is an infinity, and -0 is not less.
func TestHeatFuseThatCools(t *testing.T) {
	great := impl.Fuse{Heat: 5, Limit: 8, Cool: greatestNumber}
	expectHeat(t, great, 1, 2, 0, false)
	expectHeat(t, great, 1, greatestNumber, 0, false)
	expectHeat(t, great, 0, 0.5, 0, false)
	expectHeat(t, great, 0, 0, 5, false)
	expectHeat(t, impl.Fuse{Heat: negativeZero, Limit: 8, Cool: negativeZero}, 0, negativeZero, negativeZero, false)
	expectHeat(t, impl.Fuse{Heat: negativeZero, Limit: 8}, 0, negativeZero, 0, false)
	expectHeat(t, impl.Fuse{Heat: negativeZero, Limit: 8}, 0, 0, 0, false)
	expectHeat(t, impl.Fuse{Heat: negativeZero, Limit: 8, Cool: negativeZero}, 0, 1, 0, false)
	expectHeat(t, impl.Fuse{Limit: 8, Cool: negativeZero}, 0, negativeZero, 0, false)
	expectHeat(t, impl.Fuse{Limit: 8, Cool: 3}, 0, 1, 0, false)
}

// Promise 8: heat that is not finite makes a fuse fail, also where the numbers of it are finite.
func TestHeatFuseThatIsTooHot(t *testing.T) {
	u, cool := impl.Fuse{Heat: 1, Limit: 8}, impl.Fuse{Heat: 1, Limit: 8, Cool: greatestNumber}
	for _, current := range []float32{positiveInfinity, negativeInfinity, notANumber, 1e30, -1e30} {
		for _, ticks := range []float32{0, negativeZero, 1, greatestNumber} {
			expectNoHeat(t, u, current, ticks)
			expectNoHeat(t, cool, current, ticks)
			expectNoHeat(t, impl.Fuse{Limit: greatestNumber, Cool: 1}, current, ticks)
		}
	}
	expectNoHeat(t, u, 1e10, 1e20)
	expectNoHeat(t, cool, 1e10, 1e20)
	expectNoHeat(t, impl.Fuse{Heat: greatestNumber, Limit: 8, Cool: greatestNumber}, 1e19, 1)
	expectNoHeat(t, impl.Fuse{Heat: greatestNumber, Limit: 8}, 1.8e19, 1)
	expectHeat(t, u, 1e10, 1e18, heatOf(u, 1e10, 1e18), true)
}

// wrongTicks are numbers that cannot be ticks.
func wrongTicks() []float32 {
	return []float32{-leastSubnormal, -1, -greatestNumber, positiveInfinity, negativeInfinity, notANumber}
}

// Promise 1: fuses that are not valid, and ticks that are none, make fuses fail with zero values.
func TestWrongFusesFail(t *testing.T) {
	for _, u := range wrongFuses() {
		for _, current := range []float32{0, 1, 3} {
			for _, ticks := range []float32{0, 1, 1000} {
				expectNoHeat(t, u, current, ticks)
				expectNoRun(t, u, nil, ticks)
				expectNoRun(t, u, []float32{current}, ticks)
				expectNoRun(t, u, []float32{current, current}, ticks)
			}
		}
	}
	for _, ticks := range wrongTicks() {
		for _, u := range []impl.Fuse{{Limit: 8}, {Heat: 9, Limit: 8, Cool: 1}} {
			expectNoHeat(t, u, 1, ticks)
			expectNoHeat(t, u, 0, ticks)
			expectNoRun(t, u, nil, ticks)
			expectNoRun(t, u, []float32{1}, ticks)
			expectNoRun(t, u, []float32{0, 5}, ticks)
		}
	}
}

// expectRun reports a failure, and another index or heat than those with which a fuse blows or stays.
func expectRun(t *testing.T, u impl.Fuse, currents []float32, ticks float32, want int64, heat float32) {
	t.Helper()
	index, got, ok := impl.RunFuse(u, currents, ticks)
	u.Heat = heat
	expect(t, fmt.Sprint("RunFuse with ", currents, " for ", ticks), fmt.Sprint(index, " ", fuseText(got), ok), fmt.Sprint(want, " ", fuseText(u), true))
}

// expectNoRun reports a fuse that does not fail to run.
func expectNoRun(t *testing.T, u impl.Fuse, currents []float32, ticks float32) {
	t.Helper()
	index, got, ok := impl.RunFuse(u, currents, ticks)
	expectFailure(t, fmt.Sprint("RunFuse with ", len(currents), " currents"), index == 0 && fuseText(got) == fuseText(impl.Fuse{}), ok)
}

// Promise 8: a fuse blows at the first current behind which its heat is at the limit, or not at all.
func TestRunFuse(t *testing.T) {
	plain, cooling := impl.Fuse{Limit: 8}, impl.Fuse{Heat: 1, Limit: 8, Cool: 4}
	expectRun(t, plain, []float32{2, 1, 3}, 1, 2, 14)
	expectRun(t, plain, []float32{2, 1, 3, 9}, 1, 2, 14)
	expectRun(t, plain, []float32{2, 1}, 1, -1, 5)
	expectRun(t, plain, []float32{2, 2, 2}, 1, 1, 8)
	expectRun(t, plain, []float32{2}, 2, 0, 8)
	expectRun(t, plain, []float32{3, 0, 0}, 1, 0, 9)
	expectRun(t, plain, []float32{-3}, 1, 0, 9)
	expectRun(t, plain, []float32{0, 0, 3}, 0, -1, 0)
	expectRun(t, plain, nil, 1, -1, 0)
	expectRun(t, plain, []float32{}, 0, -1, 0)
	expectRun(t, cooling, []float32{1}, 1, -1, 0)
	expectRun(t, cooling, []float32{1, 2, 3, 2, 3}, 1, 4, 10)
	expectRun(t, cooling, []float32{0, 0, 3, 0, 0, 3}, 1, -1, 5)
	expectRun(t, cooling, []float32{3, 3}, 1, 1, 11)
	hot := impl.Fuse{Heat: 9, Limit: 8, Cool: 0.5}
	expectRun(t, hot, nil, 1, -1, 9)
	expectRun(t, hot, []float32{0, 0}, 1, 0, 8.5)
	expectRun(t, hot, []float32{0, 0}, 2, 0, 8)
	expectRun(t, hot, []float32{0, 0}, 4, -1, 5)
	expectRun(t, hot, []float32{0, 9}, 0, 0, 9)
	expectRun(t, impl.Fuse{Heat: negativeZero, Limit: 8}, nil, 1, -1, negativeZero)
}

// Promise 8: heat that is not finite makes a run fail, unless the fuse has blown before.
func TestRunFuseThatIsTooHot(t *testing.T) {
	u := impl.Fuse{Limit: 8}
	for _, wrong := range []float32{positiveInfinity, negativeInfinity, notANumber, 1e30} {
		expectNoRun(t, u, []float32{wrong}, 1)
		expectNoRun(t, u, []float32{wrong, 3}, 1)
		expectNoRun(t, u, []float32{1, 2, wrong}, 1)
		expectNoRun(t, u, []float32{1, wrong, 3}, 0)
		expectRun(t, u, []float32{3, wrong}, 1, 0, 9)
		expectRun(t, u, []float32{1, 2, 2, wrong, wrong}, 1, 2, 9)
	}
	expectNoRun(t, impl.Fuse{Limit: greatestNumber}, repeated(float32(1.7e19), 2), 1)
}

// Promise 8: runs have at most 256 currents, the last one of which can blow the fuse.
func TestRunFuseAtTheLimit(t *testing.T) {
	for _, count := range []int{1, 2, 255, 256} {
		expectRun(t, impl.Fuse{Limit: float32(count)}, repeated(float32(1), count), 1, int64(count-1), float32(count))
		expectRun(t, impl.Fuse{Limit: float32(count) + 0.5}, repeated(float32(1), count), 1, -1, float32(count))
		expectRun(t, impl.Fuse{Limit: 1}, repeated(float32(1), count), 1, 0, 1)
		expectRun(t, impl.Fuse{Limit: 1, Cool: 1}, repeated(float32(1), count), 1, -1, 0)
	}
	for _, count := range []int{257, 258, 1000} {
		expectNoRun(t, impl.Fuse{Limit: 1}, repeated(float32(1), count), 1)
		expectNoRun(t, impl.Fuse{Limit: 1}, repeated(float32(0), count), 0)
	}
}

// Promise 8: a run is one HeatFuse after another, up to the first one behind which the fuse has blown.
func TestRunsAreMadeOneAfterAnother(t *testing.T) {
	blown, stayed := 0, 0
	for n := range 300 {
		u := impl.Fuse{Heat: float32(n % 4), Limit: 4 + float32(n%13), Cool: 0.3 * float32(n%5)}
		ticks := 0.25 * float32(1+n%3)
		var currents []float32
		for i := range n % 40 {
			currents = append(currents, float32(math.Sin(float64(n+i*i)))*1.5)
		}
		want, now := int64(-1), u
		for i, current := range currents {
			next, isBlown, ok := impl.HeatFuse(now, current, ticks)
			if !ok {
				t.Fatalf("HeatFuse %v: fails", now)
			}
			now = next
			if isBlown {
				want = int64(i)
				break
			}
		}
		expectRun(t, u, currents, ticks, want, now.Heat)
		if want < 0 {
			stayed++
		} else {
			blown++
		}
	}
	if blown < 50 || stayed < 50 {
		t.Errorf("runs: %d blown and %d not", blown, stayed)
	}
}
