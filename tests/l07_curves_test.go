package tests

import (
	"fmt"
	"maps"
	"slices"
	"testing"

	"loop.example/g01212/impl"
)

// Promise 8: curves have 2 to 16 finite points, whose currents increase and whose times do not.
func TestValidCurve(t *testing.T) {
	for _, c := range someCurves() {
		if !impl.ValidCurve(c) {
			t.Errorf("ValidCurve %v: false", c)
		}
	}
	for what, c := range wrongCurves() {
		if impl.ValidCurve(c) {
			t.Errorf("ValidCurve with %s: true", what)
		}
	}
	if impl.MaxCurve != 16 || impl.MaxDevices != 16 {
		t.Errorf("limits: got %d and %d", impl.MaxCurve, impl.MaxDevices)
	}
}

// Promise 8: each number of a curve can be any one that leaves it in order.
func TestValidCurveOfOddNumbers(t *testing.T) {
	for _, x := range append(oddNumbers(), 1.9, 2, 2.5, 3, 5, 7, 8, 9) {
		for at := range 4 {
			c, base := changedCurve(0, at, x), changedCurve(0, 0, 1)
			want := x > 0 && x <= greatestNumber && (at == 0 || x > base.Currents[at-1]) && (at == 3 || x < base.Currents[at+1])
			if impl.ValidCurve(c) != want {
				t.Errorf("ValidCurve %v: %v", c, !want)
			}
			c = changedCurve(1, at, x)
			want = x > 0 && x <= greatestNumber && (at == 0 || x <= base.Times[at-1]) && (at == 3 || x >= base.Times[at+1])
			if impl.ValidCurve(c) != want {
				t.Errorf("ValidCurve %v: %v", c, !want)
			}
		}
	}
}

// anyCurves are curves, valid or not.
func anyCurves() []impl.Curve {
	curves := someCurves()
	wrong := wrongCurves()
	for _, what := range slices.Sorted(maps.Keys(wrong)) {
		curves = append(curves, wrong[what])
	}
	for _, x := range oddNumbers() {
		curves = append(curves, impl.Curve{Currents: []float32{x}}, impl.Curve{Times: []float32{x}},
			impl.Curve{Currents: []float32{1, x}, Times: []float32{x, 2}}, impl.Curve{Currents: []float32{x, 1}, Times: []float32{2, x}})
	}
	return curves
}

// Promise 1: curves are the same if all of their numbers are, whether they are valid or not.
func TestSameCurve(t *testing.T) {
	curves := anyCurves()
	texts := make([]string, len(curves))
	for i, c := range curves {
		texts[i] = curveText(c)
	}
	for i, a := range curves {
		for j, b := range curves {
			if want := texts[i] == texts[j]; impl.SameCurve(a, b) != want {
				t.Errorf("SameCurve %v, %v: %v", a, b, !want)
			}
		}
	}
	numberPairs := [][2]float32{{0, negativeZero}, {1, nextUp(1)}, {positiveInfinity, negativeInfinity}, {positiveInfinity, notANumber}, {notANumber, 0}}
	for part := range 2 {
		for at := range 4 {
			for _, x := range numberPairs {
				if impl.SameCurve(changedCurve(part, at, x[0]), changedCurve(part, at, x[1])) {
					t.Errorf("SameCurve with %v at %d of %d: true", x, at, part)
				}
			}
			if !impl.SameCurve(changedCurve(part, at, notANumber), changedCurve(part, at, -notANumber)) {
				t.Errorf("SameCurve with two not-a-numbers at %d of %d: false", at, part)
			}
		}
	}
	if !impl.SameCurve(impl.Curve{}, impl.Curve{Currents: []float32{}, Times: []float32{}}) {
		t.Errorf("SameCurve of nothing: false")
	}
}

// Promise 8: the times of the document's examples, and others that are exact.
func TestTimeAt(t *testing.T) {
	first := curveOf([2]float32{1, 8}, [2]float32{3, 2})
	steps := curveOf([2]float32{1, 40}, [2]float32{2, 40}, [2]float32{4, 8}, [2]float32{8, 4}, [2]float32{16, 4}, [2]float32{20, 3})
	cases := []struct {
		c             impl.Curve
		current, want float32
	}{
		{first, 1, 8}, {first, 2, 5}, {first, 1.5, 6.5}, {first, 2.5, 3.5}, {first, 3, 2}, {first, 7, 2}, {first, positiveInfinity, 2},
		{steps, 1, 40}, {steps, 1.5, 40}, {steps, 2, 40}, {steps, 2.5, 32}, {steps, 3, 24}, {steps, 3.75, 12}, {steps, 4, 8}, {steps, 5, 7}, {steps, 8, 4},
		{steps, nextUp(8), 4}, {steps, 12, 4}, {steps, 16, 4}, {steps, 17, 3.75}, {steps, 19, 3.25}, {steps, 20, 3}, {steps, nextUp(20), 3}, {steps, greatestNumber, 3},
	}
	for _, c := range cases {
		expectNumber(t, fmt.Sprint("TimeAt ", c.current), timeAt(t, c.c, c.current), c.want)
	}
}

// Promise 8: there is no time below the first current, nor at a not-a-number.
func TestTimeAtBelowTheFirst(t *testing.T) {
	for _, c := range someCurves() {
		for _, current := range []float32{nextDown(c.Currents[0]), c.Currents[0] / 2, 0, negativeZero, -leastSubnormal, -c.Currents[0], -c.Currents[1], negativeInfinity, notANumber, -notANumber} {
			if current < c.Currents[0] || current != current {
				time, ok := impl.TimeAt(c, current)
				expectNoNumber(t, fmt.Sprint("TimeAt ", current, " of ", curveText(c)), time, ok)
			}
		}
	}
}

// Promise 8: each told current has its told time, and all beyond the last one have the last time.
func TestTimeAtToldCurrents(t *testing.T) {
	for _, c := range someCurves() {
		for i, current := range c.Currents {
			expectNumber(t, "TimeAt a told current", timeAt(t, c, current), c.Times[i])
		}
		last := c.Currents[len(c.Currents)-1]
		for _, current := range []float32{nextUp(last), last * 2, greatestNumber, positiveInfinity} {
			expectNumber(t, "TimeAt beyond the last current", timeAt(t, c, current), c.Times[len(c.Times)-1])
		}
	}
}

// currentsFrom are increasing currents from a curve's first one on: those near
// the told ones, some between them, and some beyond the last one.
func currentsFrom(c impl.Curve) []float32 {
	var list []float32
	for i, current := range c.Currents {
		list = append(list, current, nextUp(current), nextUp(nextUp(current)))
		if i > 0 {
			before := c.Currents[i-1]
			list = append(list, nextDown(current), nextDown(nextDown(current)))
			for k := range 16 {
				share := float32(k) / 16
				list = append(list, before+(current-before)*share, before+(current-before)*(share*share/4000))
			}
		}
	}
	list = slices.DeleteFunc(list, func(x float32) bool { return x < c.Currents[0] })
	slices.Sort(list)
	return list
}

// Promise 8: curves fall: a greater current never has a greater time, and between
// two told currents it is between their times.
func TestCurvesFall(t *testing.T) {
	curves := someCurves()
	for n := range 2000 {
		curves = append(curves, variedCurve(30+n))
	}
	for _, c := range curves {
		before := c.Times[0]
		for _, current := range currentsFrom(c) {
			time := timeAt(t, c, current)
			if !(time <= before) || time < c.Times[len(c.Times)-1] {
				t.Fatalf("TimeAt %v of %v: got %v behind %v", current, c, time, before)
			}
			before = time
			for i := range c.Currents[1:] {
				if c.Currents[i] <= current && current < c.Currents[i+1] && !(time <= c.Times[i] && time >= c.Times[i+1]) {
					t.Fatalf("TimeAt %v of %v: got %v", current, c, time)
				}
			}
		}
	}
}

// Promise 8: between two points a curve is straight, nearly, and where all is a small integer exactly.
func TestCurvesAreStraight(t *testing.T) {
	for _, c := range someCurves() {
		for _, current := range currentsFrom(c) {
			for i := range c.Currents[1:] {
				u, v, from, to := float64(c.Currents[i]), float64(c.Currents[i+1]), float64(c.Times[i]), float64(c.Times[i+1])
				if x := float64(current); u <= x && x < v {
					want := from + (to-from)*((x-u)/(v-u))
					if got := float64(timeAt(t, c, current)); got-want > 2e-7*from+1e-44 || want-got > 2e-7*from+1e-44 {
						t.Errorf("TimeAt %v of %v: got %v, want nearly %v", current, c, got, want)
					}
				}
			}
		}
	}
	for slope := range 20 {
		c := curveOf([2]float32{4, float32(16*slope + 9)}, [2]float32{20, 9}, [2]float32{36, 9})
		for current := float32(4); current <= 40; current++ {
			expectNumber(t, "TimeAt an integer", timeAt(t, c, current), 9+float32(slope)*max(0, 20-current))
		}
	}
}

// lineTime returns the time on the line from one point to another, with each operation rounded.
func lineTime(u, v, from, to, current float32) float32 {
	share := (current - u) / (v - u)
	fall := float32((to - from) * share)
	return from + fall
}

// wideTime is lineTime that is rounded in the end alone.
func wideTime(u, v, from, to, current float32) float32 {
	share := (float64(current) - float64(u)) / (float64(v) - float64(u))
	return float32(float64(from) + (float64(to)-float64(from))*share)
}

// Promise 8: quotients, products, differences and sums are each rounded, which often gives another number than rounding once.
func TestTimeAtRounds(t *testing.T) {
	curves := someCurves()
	for n := range 200 {
		curves = append(curves, variedCurve(30+n))
	}
	same, others := 0, 0
	for _, c := range curves {
		for _, current := range currentsFrom(c) {
			for i := range c.Currents[1:] {
				u, v, from, to := c.Currents[i], c.Currents[i+1], c.Times[i], c.Times[i+1]
				if current < u || current >= v {
					continue
				}
				want := lineTime(u, v, from, to, current)
				expectNumber(t, fmt.Sprint("TimeAt ", current, " of ", c), timeAt(t, c, current), want)
				if want == wideTime(u, v, from, to, current) {
					same++
				} else {
					others++
				}
			}
		}
	}
	if same < 1000 || others < 1000 {
		t.Errorf("times: %d are the same if they are rounded once, and %d are not", same, others)
	}
}

// scaledCurve returns the products of all numbers of a curve.
func scaledCurve(c impl.Curve, currents, times float32) impl.Curve {
	var scaled impl.Curve
	for i := range c.Currents {
		scaled.Currents = append(scaled.Currents, c.Currents[i]*currents)
		scaled.Times = append(scaled.Times, c.Times[i]*times)
	}
	return scaled
}

// Promise 8: all numbers are multiplied, and the curve fails if it is no longer one.
func TestScaleCurve(t *testing.T) {
	factors := append(oddNumbers(), 0.5, 2, 1e-20, 1e20, 0.1, nextUp(1), nextDown(1), 1e-38, 3e38, 4e37)
	valid, wrong := 0, 0
	for _, c := range someCurves() {
		for _, currents := range factors {
			for _, times := range factors {
				want := scaledCurve(c, currents, times)
				got, ok := impl.ScaleCurve(c, currents, times)
				what := fmt.Sprint("ScaleCurve ", c, " by ", currents, " and ", times)
				if impl.ValidCurve(want) {
					expect(t, fmt.Sprint(what, ok), curveText(got), curveText(want))
					valid++
				} else {
					expectNoCurve(t, what, got, ok)
					wrong++
				}
			}
		}
	}
	if valid < 1000 || wrong < 1000 {
		t.Errorf("ScaleCurve: %d valid and %d others", valid, wrong)
	}
}

// Promise 8: curves are scaled as far as their numbers stay finite, greater than 0 and in order.
func TestScaleCurveAtTheEdges(t *testing.T) {
	c := curveOf([2]float32{1, 8}, [2]float32{3, 2})
	near := curveOf([2]float32{leastNormal, 8}, [2]float32{nextUp(leastNormal), 8})
	cases := []struct {
		c              impl.Curve
		currents, time float32
		ok             bool
	}{
		{c, 1, 1, true}, {c, 2, 0.5, true}, {c, 0, 1, false}, {c, 1, 0, false}, {c, negativeZero, 1, false}, {c, 1, negativeZero, false},
		{c, -1, 1, false}, {c, 1, -1, false}, {c, -1, -1, false}, {c, notANumber, 1, false}, {c, 1, notANumber, false},
		{c, positiveInfinity, 1, false}, {c, 1, positiveInfinity, false}, {c, negativeInfinity, 1, false},
		{c, greatestNumber / 4, 1, true}, {c, greatestNumber / 2, 1, false}, {c, 1, greatestNumber / 8, true}, {c, 1, nextUp(greatestNumber / 8), false},
		{c, leastSubnormal, 1, true}, {c, 1, leastSubnormal, true}, {scaledCurve(c, 0.25, 1), leastSubnormal, 1, false}, {scaledCurve(c, 0.6, 0.5), leastSubnormal, leastSubnormal, true},
		{scaledCurve(c, 0.5, 1), leastSubnormal, 1, false}, {c, 1, leastSubnormal / 2, false}, {scaledCurve(c, 1, 0.25), 1, leastSubnormal, false}, {scaledCurve(c, 1, 0.26), 1, leastSubnormal, true},
		{near, 1, 1, true}, {near, 0.5, 1, false}, {near, 2, 1, true}, {near, 0.75, 1, true}, {near, 1, 0.5, true}, {near, 0.25, 1, false},
		{curveOf([2]float32{1, 8}, [2]float32{nextUp(1), 1}), 0.9, 1, true}, {curveOf([2]float32{1, 8}, [2]float32{nextUp(1), nextDown(8)}), 1, leastNormal, true},
		{curveOf([2]float32{nextDown(2), 8}, [2]float32{2, 1}), 0.50000006, 1, true}, {curveOf([2]float32{nextUp(1), 8}, [2]float32{nextUp(nextUp(1)), 1}), 0.6, 1, true},
	}
	for _, x := range cases {
		got, ok := impl.ScaleCurve(x.c, x.currents, x.time)
		what := fmt.Sprint("ScaleCurve ", x.c, " by ", x.currents, " and ", x.time)
		if !x.ok {
			expectNoCurve(t, what, got, ok)
			continue
		}
		expect(t, fmt.Sprint(what, ok), curveText(got)+fmt.Sprint(ok), curveText(scaledCurve(x.c, x.currents, x.time))+"true")
	}
}

// Promise 8: a curve that is not valid is not made valid.
func TestScaleCurveOfWrongCurves(t *testing.T) {
	turned := scaledCurve(curveOf([2]float32{1, 8}, [2]float32{3, 2}), -1, 1)
	got, ok := impl.ScaleCurve(turned, -1, 1)
	expectNoCurve(t, "ScaleCurve with currents less than 0", got, ok)
	turned = scaledCurve(curveOf([2]float32{1, 8}, [2]float32{3, 2}), 1, -1)
	got, ok = impl.ScaleCurve(turned, 1, -1)
	expectNoCurve(t, "ScaleCurve with times less than 0", got, ok)
	closely := curveOf([2]float32{1, 2}, [2]float32{2, nextUp(2)})
	got, ok = impl.ScaleCurve(closely, 1, leastSubnormal)
	expectNoCurve(t, "ScaleCurve with times that increase", got, ok)
	for what, c := range wrongCurves() {
		for _, currents := range []float32{1, -1, 2, 0.5} {
			got, ok := impl.ScaleCurve(c, currents, 1)
			expectNoCurve(t, "ScaleCurve with "+what, got, ok)
		}
	}
}

// Promise 8: a curve of twice the currents and times has twice the time at twice the current.
func TestScaledCurvesFollow(t *testing.T) {
	for n := range 40 {
		c := variedCurve(n)
		for _, factors := range [][2]float32{{1, 1}, {2, 4}, {0.5, 8}, {1 << 20, 1.0 / (1 << 20)}} {
			scaled, ok := impl.ScaleCurve(c, factors[0], factors[1])
			if !ok {
				t.Fatalf("ScaleCurve %v: fails", c)
			}
			for _, current := range currentsFrom(c) {
				expectNumber(t, "TimeAt of a scaled curve", timeAt(t, scaled, current*factors[0]), timeAt(t, c, current)*factors[1])
			}
		}
	}
}
