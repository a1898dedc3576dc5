package tests

import (
	"fmt"
	"math"
	"testing"

	"loop.example/g01212/impl"
)

// twoCurves returns the curve of the document's example, and one that is later
// by 1 at first, and by 2 from the current 3 on.
func twoCurves() (early, late impl.Curve) {
	return curveOf([2]float32{1, 8}, [2]float32{3, 2}), curveOf([2]float32{1, 9}, [2]float32{3, 4})
}

// wrongCounts are counts beyond the limits.
func wrongCounts() []int64 {
	return []int64{0, -1, -2, 101, 102, 256, 1 << 32, 1<<32 + 1, math.MinInt64, math.MaxInt64}
}

// expectGrade reports a grade that is not the same as it must be, or a failure.
func expectGrade(t *testing.T, a, b impl.Curve, low, high float32, count int64, want float32) {
	t.Helper()
	grade, ok := impl.GradeOf(a, b, low, high, count)
	expect(t, fmt.Sprint("GradeOf ", low, " to ", high, " by ", count), told(grade, ok), told(want, true))
}

// expectNoGrade reports a grade that does not fail.
func expectNoGrade(t *testing.T, a, b impl.Curve, low, high float32, count int64) {
	t.Helper()
	grade, ok := impl.GradeOf(a, b, low, high, count)
	expectNoNumber(t, fmt.Sprint("GradeOf ", low, " to ", high, " by ", count), grade, ok)
}

// Promise 8: a margin is the second curve's time less the first one's, where both have one.
func TestMarginAt(t *testing.T) {
	curves := someCurves()
	for i, a := range curves {
		b := curves[(7*i+3)%len(curves)]
		for _, current := range append(append(currentsFrom(a), currentsFrom(b)...), oddNumbers()...) {
			first, isFirst := impl.TimeAt(a, current)
			second, isSecond := impl.TimeAt(b, current)
			margin, ok := impl.MarginAt(a, b, current)
			want := float32(0)
			if isFirst && isSecond {
				want = second - first
			}
			expect(t, fmt.Sprint("MarginAt ", current), told(margin, ok), told(want, isFirst && isSecond))
			margin, ok = impl.MarginAt(a, a, current)
			expect(t, fmt.Sprint("MarginAt of one curve at ", current), told(margin, ok), told(0, isFirst))
		}
	}
}

// Promise 8: the margins of two curves of small integers, one of which begins later than the other.
func TestMarginAtOneCurveAlone(t *testing.T) {
	early := curveOf([2]float32{1, 8}, [2]float32{3, 2})
	late := curveOf([2]float32{2, 11}, [2]float32{6, 3})
	cases := []struct{ current, want float32 }{{2, 6}, {2.5, 6.5}, {3, 7}, {4, 5}, {6, 1}, {100, 1}, {positiveInfinity, 1}}
	for _, c := range cases {
		margin, ok := impl.MarginAt(early, late, c.current)
		expect(t, fmt.Sprint("MarginAt ", c.current), told(margin, ok), told(c.want, true))
		margin, ok = impl.MarginAt(late, early, c.current)
		expect(t, fmt.Sprint("MarginAt ", c.current), told(margin, ok), told(-c.want, true))
	}
	for _, current := range []float32{1, 1.5, nextDown(2), 0.5, 0, -3, negativeInfinity, notANumber} {
		margin, ok := impl.MarginAt(early, late, current)
		expectNoNumber(t, fmt.Sprint("MarginAt ", current), margin, ok)
		margin, ok = impl.MarginAt(late, early, current)
		expectNoNumber(t, fmt.Sprint("MarginAt ", current), margin, ok)
	}
}

// gradeOf returns the least margin of all told currents, and whether there is one.
func gradeOf(a, b impl.Curve, low, high float32, count int64) (float32, bool) {
	least, isFound := positiveInfinity, false
	for k := int64(0); k <= count; k++ {
		if margin, ok := impl.MarginAt(a, b, toldCurrent(low, high, k, count)); ok {
			least, isFound = min(least, margin), true
		}
	}
	if !isFound {
		least = 0
	}
	return least, isFound
}

// toldCurrent returns the current of a part of the way from low to high.
func toldCurrent(low, high float32, k, count int64) float32 {
	share := float32(k) / float32(count)
	step := float32((high - low) * share)
	return low + step
}

// Promise 8: a grade is the least margin of all told currents that have one.
func TestGradeOf(t *testing.T) {
	curves := someCurves()
	ends := []float32{0, 0.05, 0.3, 1, 1.9, 4.7, 13, 1000, greatestNumber, positiveInfinity, negativeInfinity, notANumber, -5}
	found, none := 0, 0
	for i, a := range curves {
		for j := range 5 {
			b := curves[(7*i+11*j+1)%len(curves)]
			for _, low := range ends {
				for _, high := range ends {
					count := int64(1 + (i*j+int(math.Float32bits(low+high)))%100)
					want, ok := gradeOf(a, b, low, high, count)
					grade, isGrade := impl.GradeOf(a, b, low, high, count)
					expect(t, fmt.Sprint("GradeOf ", low, " to ", high, " by ", count), told(grade, isGrade), told(want, ok))
					if ok {
						found++
					} else {
						none++
					}
				}
			}
		}
	}
	if found < 1000 || none < 1000 {
		t.Errorf("GradeOf: %d grades and %d failures", found, none)
	}
}

// Promise 8: grades of small integers, where the ends, what is between them, or some currents alone count.
func TestGradesOfSmallIntegers(t *testing.T) {
	early, late := twoCurves()
	expectGrade(t, early, late, 1, 3, 2, 1)
	expectGrade(t, late, early, 1, 3, 2, -2)
	expectGrade(t, early, late, 2, 3, 1, 1.5)
	expectGrade(t, early, late, 3, 1, 1, 1)
	expectGrade(t, early, late, 3, 2, 100, 1.5)
	expectGrade(t, early, late, 2, 2, 1, 1.5)
	expectGrade(t, early, late, 2, 2, 100, 1.5)
	expectGrade(t, early, late, -3, 3, 1, 2)
	expectGrade(t, early, late, -3, 3, 2, 2)
	expectGrade(t, early, late, -3, 3, 3, 1)
	expectGrade(t, early, late, 3, -3, 3, 1)
	expectGrade(t, early, late, 0, 1, 1, 1)
	expectGrade(t, early, late, 0, 1, 100, 1)
	expectGrade(t, early, early, 0, 9, 9, 0)
	expectNoGrade(t, early, late, 0, nextDown(1), 100)
	expectNoGrade(t, early, late, nextDown(1), 0, 100)
	expectNoGrade(t, early, late, -9, -3, 1)
	dip := curveOf([2]float32{1, 9}, [2]float32{4, 9}, [2]float32{5, 3}, [2]float32{9, 3})
	step := curveOf([2]float32{1, 8}, [2]float32{6, 8}, [2]float32{7, 1}, [2]float32{9, 1})
	expectGrade(t, step, dip, 1, 9, 1, 1)
	expectGrade(t, step, dip, 1, 9, 2, -5)
	expectGrade(t, step, dip, 1, 9, 8, -5)
	expectGrade(t, step, dip, 1, 7, 1, 1)
	expectGrade(t, step, dip, 7, 9, 100, 2)
	expectGrade(t, dip, step, 1, 9, 8, -2)
	expectGrade(t, dip, step, 1, 4, 3, -1)
}

// Promise 8: grades at currents that are infinite or not-a-numbers.
func TestGradesOfOddCurrents(t *testing.T) {
	early, late := twoCurves()
	expectGrade(t, early, late, 1, positiveInfinity, 1, 2)
	expectGrade(t, early, late, 1, positiveInfinity, 100, 2)
	expectGrade(t, early, late, -greatestNumber, greatestNumber, 1, 2)
	expectGrade(t, early, late, greatestNumber, greatestNumber, 7, 2)
	expectGrade(t, early, late, leastSubnormal, 1, 1, 1)
	for _, count := range []int64{1, 2, 100} {
		expectNoGrade(t, early, late, notANumber, 3, count)
		expectNoGrade(t, early, late, 1, notANumber, count)
		expectNoGrade(t, early, late, positiveInfinity, positiveInfinity, count)
		expectNoGrade(t, early, late, positiveInfinity, 2, count)
		expectNoGrade(t, early, late, negativeInfinity, 2, count)
		expectNoGrade(t, early, late, negativeInfinity, positiveInfinity, count)
		expectNoGrade(t, early, late, 1, negativeInfinity, count)
		expectNoGrade(t, early, late, greatestNumber, -greatestNumber, count)
	}
}

// Promise 8: counts are 1 to 100.
func TestCountsOfGrades(t *testing.T) {
	early, late := twoCurves()
	for count := int64(1); count <= 100; count++ {
		expectGrade(t, early, late, 1, 3, count, 1)
		expectGrade(t, early, late, 2, 2, count, 1.5)
	}
	for _, count := range wrongCounts() {
		expectNoGrade(t, early, late, 1, 3, count)
		expectNoGrade(t, early, late, 2, 2, count)
	}
}

// dippingAt returns two curves whose margin is -4 at one current, 4 below it and 0.5 above it.
func dippingAt(current float32) (a, b impl.Curve) {
	a = curveOf([2]float32{0.25, 5}, [2]float32{current, 5}, [2]float32{nextUp(current), 0.5})
	b = curveOf([2]float32{0.25, 9}, [2]float32{nextDown(current), 9}, [2]float32{current, 1})
	return a, b
}

// Promise 8: the told currents count, each of them, and none beside them.
func TestToldCurrentsOfGrades(t *testing.T) {
	for _, ends := range [][2]float32{{1, 101}, {0.3, 7.7}, {9.1, 0.7}} {
		for count := int64(1); count <= 100; count++ {
			for k := range count + 1 {
				current := toldCurrent(ends[0], ends[1], k, count)
				a, b := dippingAt(current)
				expectGrade(t, a, b, ends[0], ends[1], count, -4)
				a, b = dippingAt(nextUp(current))
				if grade, ok := impl.GradeOf(a, b, ends[0], ends[1], count); !ok || grade < 0 {
					t.Errorf("GradeOf beside %v of %v: got %v, %v", k, count, grade, ok)
				}
			}
		}
	}
}

// Promise 1: curves that are not valid make functions of curves fail with zero values.
func TestWrongCurvesFail(t *testing.T) {
	good := curveOf([2]float32{0.5, 8}, [2]float32{3, 2})
	for what, c := range wrongCurves() {
		for _, current := range []float32{0, 1, 2, 3, 7, 2000, positiveInfinity, notANumber} {
			time, ok := impl.TimeAt(c, current)
			expectNoNumber(t, "TimeAt with "+what, time, ok)
			for _, pair := range [][2]impl.Curve{{c, good}, {good, c}, {c, c}} {
				margin, ok := impl.MarginAt(pair[0], pair[1], current)
				expectNoNumber(t, "MarginAt with "+what, margin, ok)
				expectNoGrade(t, pair[0], pair[1], 1, current, 3)
			}
		}
	}
}
