package tests

import (
	"fmt"
	"math"
	"slices"
	"testing"

	"loop.example/g01212/impl"
)

// pairsOf returns the pairs of devices in a row whose grade is less than a margin.
func pairsOf(parents []int64, devices []impl.Device, low, high, margin float32, count int64) [][]int64 {
	var pairs [][]int64
	for i, upper := range devices {
		for j, lower := range devices {
			if i == j || !slices.Contains(pathOf(parents, lower.Bus), upper.Bus) {
				continue
			}
			if grade, ok := impl.GradeOf(lower.Curve, upper.Curve, low, high, count); ok && grade < margin {
				pairs = append(pairs, []int64{int64(i), int64(j)})
			}
		}
	}
	return pairs
}

// expectPairs reports other pairs than those that are unsafe.
func expectPairs(t *testing.T, f impl.Feeder, devices []impl.Device, low, high, margin float32, count int64, want [][]int64) {
	t.Helper()
	pairs, ok := impl.UnsafePairs(f, devices, low, high, margin, count)
	what := fmt.Sprint("UnsafePairs from ", low, " to ", high, " by ", count, " less than ", margin)
	expect(t, what, fmt.Sprint(pairs, ok), fmt.Sprint(want, true))
}

// Promise 8: the unsafe pairs are those in a row whose grade is too small, in ascending order.
func TestUnsafePairs(t *testing.T) {
	for _, parents := range deviceTrees() {
		for _, devices := range someDevices(len(parents)) {
			for n, margin := range []float32{-10, -1, 0, negativeZero, 0.5, 3, 100} {
				low, high, count := 0.3*float32(n+1), 9-0.7*float32(n), int64(1+13*n)
				expectPairs(t, treeOf(parents), devices, low, high, margin, count, pairsOf(parents, devices, low, high, margin, count))
			}
		}
	}
}

// rowOfCurves returns devices with some curves at the buses 0, 1, 2 and so on.
func rowOfCurves(curves ...impl.Curve) []impl.Device {
	var devices []impl.Device
	for i, c := range curves {
		devices = append(devices, impl.Device{Bus: int64(i), Curve: c})
	}
	return devices
}

// Promise 8: a grade that is less than the margin makes a pair unsafe, one that is equal to it does not, and one that fails neither.
func TestUnsafePairsAtTheMargin(t *testing.T) {
	early, late := twoCurves()
	far := curveOf([2]float32{50, 1}, [2]float32{60, 1})
	row, star := treeOf([]int64{-1, 0}), treeOf([]int64{-1, 0, 0})
	one := [][]int64{{0, 1}}
	for _, count := range []int64{1, 2, 100} {
		expectPairs(t, row, rowOfCurves(late, early), 1, 3, 1, count, nil)
		expectPairs(t, row, rowOfCurves(late, early), 1, 3, nextUp(1), count, one)
		expectPairs(t, row, rowOfCurves(late, early), 1, 3, nextDown(1), count, nil)
		expectPairs(t, row, rowOfCurves(late, early), 1, 3, -greatestNumber, count, nil)
		expectPairs(t, row, rowOfCurves(late, early), 1, 3, greatestNumber, count, one)
		expectPairs(t, row, rowOfCurves(early, late), 1, 3, -2, count, nil)
		expectPairs(t, row, rowOfCurves(early, late), 1, 3, nextUp(-2), count, one)
		expectPairs(t, row, rowOfCurves(early, early), 3, 1, 0, count, nil)
		expectPairs(t, row, rowOfCurves(early, early), 3, 1, negativeZero, count, nil)
		expectPairs(t, row, rowOfCurves(early, early), 3, 1, leastSubnormal, count, one)
		expectPairs(t, row, rowOfCurves(early, early), 2, 2, leastSubnormal, count, one)
		expectPairs(t, row, rowOfCurves(early, early), 0, 0, greatestNumber, count, nil)
		expectPairs(t, row, rowOfCurves(far, early), 1, 3, greatestNumber, count, nil)
		expectPairs(t, row, rowOfCurves(early, far), 1, 3, greatestNumber, count, nil)
		expectPairs(t, row, rowOfCurves(early, far), -greatestNumber, greatestNumber, greatestNumber, count, one)
		expectPairs(t, row, rowOfCurves(early, far), greatestNumber, -greatestNumber, greatestNumber, count, nil)
		expectPairs(t, star, rowOfCurves(early, early, early), 1, 3, 1, count, [][]int64{{0, 1}, {0, 2}})
		expectPairs(t, star, rowOfCurves(early, early, early)[1:], 1, 3, 1, count, nil)
		expectPairs(t, star, rowOfCurves(early), 1, 3, 1, count, nil)
		expectPairs(t, star, nil, 1, 3, 1, count, nil)
	}
}

// allPairs are the pairs of so many devices in a row.
func allPairs(count int64) [][]int64 {
	var pairs [][]int64
	for i := range count {
		for j := i + 1; j < count; j++ {
			pairs = append(pairs, []int64{i, j})
		}
	}
	return pairs
}

// Promise 8: all 120 pairs of sixteen devices in a row, and the order of indices in others.
func TestUnsafePairsOfManyDevices(t *testing.T) {
	early, _ := twoCurves()
	all := allPairs(16)
	devices := rowOfCurves(repeated(early, 16)...)
	expectPairs(t, treeOf(rowParents(16)), devices, 1, 3, 1, 3, all)
	expectPairs(t, treeOf(starParents(16)), devices, 1, 3, 1, 3, all[:15])
	branches := treeOf([]int64{-1, 0, 0, 1, 2, 3})
	expectPairs(t, branches, devices[:6], 1, 3, 1, 3, [][]int64{{0, 1}, {0, 2}, {0, 3}, {0, 4}, {0, 5}, {1, 3}, {1, 5}, {2, 4}, {3, 5}})
	expectPairs(t, branches, devices[1:6], 1, 3, 1, 3, [][]int64{{0, 2}, {0, 4}, {1, 3}, {2, 4}})
}

// Promise 8: of two devices in a row that are not told to be unsafe, the lower one opens first at each told current.
func TestSafePairsOpenInOrder(t *testing.T) {
	safe, unsafe := 0, 0
	for n := range 400 {
		f := treeOf([]int64{-1, 0})
		devices := rowOfCurves(variedCurve(7*n+3), variedCurve(5*n))
		low, high, count := 0.2*float32(n%9), 2+float32(n%11), int64(1+n%100)
		pairs, _ := impl.UnsafePairs(f, devices, low, high, 0, count)
		isOrdered := true
		for k := range count + 1 {
			current := toldCurrent(low, high, k, count)
			first, _, ok := impl.FirstTrip(f, devices, 1, current)
			_, isUpper := impl.TimeAt(devices[0].Curve, current)
			_, isLower := impl.TimeAt(devices[1].Curve, current)
			if ok && isUpper && isLower && first != 1 {
				isOrdered = false
			}
		}
		if isOrdered != (len(pairs) == 0) {
			t.Errorf("UnsafePairs of %s: got %v, opens in order is %v", devicesText(devices), pairs, isOrdered)
		}
		if isOrdered {
			safe++
		} else {
			unsafe++
		}
	}
	if safe < 50 || unsafe < 50 {
		t.Errorf("pairs: %d safe and %d unsafe", safe, unsafe)
	}
}

// Promise 1: bounds that are not finite make UnsafePairs fail; counts beyond the limits make all of its grades fail, so that no pair is unsafe.
func TestWrongBoundsOfPairs(t *testing.T) {
	early, late := twoCurves()
	f := treeOf([]int64{-1, 0})
	for _, devices := range [][]impl.Device{nil, rowOfCurves(early), rowOfCurves(early, late)} {
		for _, wrong := range []float32{positiveInfinity, negativeInfinity, notANumber} {
			for _, bounds := range [][3]float32{{wrong, 3, 1}, {1, wrong, 1}, {1, 3, wrong}, {wrong, wrong, wrong}} {
				pairs, ok := impl.UnsafePairs(f, devices, bounds[0], bounds[1], bounds[2], 2)
				expectFailure(t, fmt.Sprint("UnsafePairs of ", bounds), len(pairs) == 0, ok)
			}
		}
		for _, count := range wrongCounts() {
			expectPairs(t, f, devices, 1, 3, greatestNumber, count, nil)
		}
	}
	expectPairs(t, f, rowOfCurves(early, late), 1, 3, math.MaxFloat32, 100, [][]int64{{0, 1}})
}
