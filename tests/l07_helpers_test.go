package tests

import (
	"fmt"
	"math"
	"slices"
	"strings"
	"testing"

	"loop.example/g01212/impl"
)

// nextUp returns the next greater number, and nextDown the next lesser one.
func nextUp(x float32) float32   { return math.Nextafter32(x, positiveInfinity) }
func nextDown(x float32) float32 { return math.Nextafter32(x, negativeInfinity) }

// curveText tells all numbers of a curve.
func curveText(c impl.Curve) string {
	return tellNumbers(c.Currents) + ": " + tellNumbers(c.Times)
}

// devicesText tells all fields of devices.
func devicesText(devices []impl.Device) string {
	var lines []string
	for _, d := range devices {
		lines = append(lines, fmt.Sprint(d.Bus, " ", curveText(d.Curve)))
	}
	return strings.Join(lines, "; ")
}

// fuseText tells all fields of a fuse.
func fuseText(u impl.Fuse) string {
	return tellNumbers([]float32{u.Heat, u.Limit, u.Cool})
}

// curveOf returns the curve with points, each a current and its time.
func curveOf(points ...[2]float32) impl.Curve {
	var c impl.Curve
	for _, point := range points {
		c.Currents = append(c.Currents, point[0])
		c.Times = append(c.Times, point[1])
	}
	return c
}

// variedCurve returns one of many curves with 2 to 16 points, some of which
// have the same time as the one before.
func variedCurve(n int) impl.Curve {
	var c impl.Curve
	current, time := float32(0), float32(0.2)*float32(1+n%3)
	for i := range 2 + n%15 {
		current += 0.1 * float32(1+(7*n+5*i)%11)
		c.Currents = append(c.Currents, current)
		c.Times = append(c.Times, time)
		time += 0.7 * float32((3*n+4*i)%5)
	}
	slices.Reverse(c.Times)
	return c
}

// edgeCurves are curves at the edges of the 32-bit format, and of the limits.
func edgeCurves() []impl.Curve {
	many := impl.Curve{Times: repeated(float32(3), 16)}
	for i := range 16 {
		many.Currents = append(many.Currents, float32(i+1))
	}
	return []impl.Curve{
		curveOf([2]float32{1, 8}, [2]float32{3, 2}), curveOf([2]float32{1, 9}, [2]float32{3, 4}), curveOf([2]float32{1, 2}, [2]float32{2, 2}), many,
		curveOf([2]float32{leastSubnormal, greatestNumber}, [2]float32{greatestNumber, leastSubnormal}),
		curveOf([2]float32{leastSubnormal, 2 * leastSubnormal}, [2]float32{2 * leastSubnormal, leastSubnormal}, [2]float32{leastNormal, leastSubnormal}),
		curveOf([2]float32{leastSubnormal, 3}, [2]float32{mostSubnormal, 2}, [2]float32{leastNormal, 1}),
		curveOf([2]float32{1, 5}, [2]float32{nextUp(1), 3}, [2]float32{nextUp(nextUp(1)), nextDown(3)}),
		curveOf([2]float32{nextDown(greatestNumber), 2}, [2]float32{greatestNumber, 1}),
		curveOf([2]float32{0.3, 1}, [2]float32{2, 1e-10}), curveOf([2]float32{1e-30, 0.7}, [2]float32{1e30, 0.1}),
		curveOf([2]float32{1, 1 + 1.0/(1<<23)}, [2]float32{1000, 1}), curveOf([2]float32{0.1, mostSubnormal}, [2]float32{0.7, leastSubnormal}),
		curveOf([2]float32{1, greatestNumber}, [2]float32{2, greatestNumber}, [2]float32{4, 1}, [2]float32{5, 1}),
	}
}

// someCurves are valid curves, no two of which are the same.
func someCurves() []impl.Curve {
	curves := edgeCurves()
	for n := range 30 {
		curves = append(curves, variedCurve(n))
	}
	return curves
}

// changedCurve returns a curve of four points with one other number.
func changedCurve(part, at int, x float32) impl.Curve {
	c := curveOf([2]float32{1, 8}, [2]float32{2, 5}, [2]float32{3, 5}, [2]float32{7, 0.5})
	[][]float32{c.Currents, c.Times}[part][at] = x
	return c
}

// wrongCurves are curves that are not valid, each for one reason.
func wrongCurves() map[string]impl.Curve {
	wrong := map[string]impl.Curve{"no points": {}, "one point": curveOf([2]float32{1, 2})}
	for _, count := range []int{17, 18, 256, 1000} {
		var c impl.Curve
		for i := range count {
			c.Currents, c.Times = append(c.Currents, float32(i+1)), append(c.Times, 1)
		}
		wrong[fmt.Sprint(count, " points")] = c
	}
	for currents := range 6 {
		for times := range 6 {
			if currents != times {
				c := impl.Curve{Currents: []float32{1, 2, 3, 4, 5}[:currents], Times: repeated(float32(1), times)}
				wrong[fmt.Sprint(currents, " currents and ", times, " times")] = c
			}
		}
	}
	for at := range 4 {
		for _, x := range []float32{0, negativeZero, -leastSubnormal, -1, -greatestNumber, positiveInfinity, negativeInfinity, notANumber} {
			wrong[fmt.Sprint("the current ", x, " at ", at)] = changedCurve(0, at, x)
			wrong[fmt.Sprint("the time ", x, " at ", at)] = changedCurve(1, at, x)
		}
	}
	for at, x := range []float32{2, 3, 7} {
		wrong[fmt.Sprint("a current as behind it at ", at)] = changedCurve(0, at, x)
		wrong[fmt.Sprint("a current above the one behind it at ", at)] = changedCurve(0, at, nextUp(x))
	}
	for at, x := range []float32{1, 2, 3} {
		wrong[fmt.Sprint("a current as before it at ", at+1)] = changedCurve(0, at+1, x)
		wrong[fmt.Sprint("a current below the one before it at ", at+1)] = changedCurve(0, at+1, nextDown(x))
	}
	for at, x := range []float32{8, 5, 5} {
		wrong[fmt.Sprint("a time above the one before it at ", at+1)] = changedCurve(1, at+1, nextUp(x))
	}
	return wrong
}

// wrongFuses are fuses that are not valid, each for one reason.
func wrongFuses() []impl.Fuse {
	wrong := []impl.Fuse{{}, {Heat: 1, Cool: 1}, {Heat: 1, Limit: negativeZero, Cool: 1}}
	for _, x := range []float32{-leastSubnormal, -1, -greatestNumber, positiveInfinity, negativeInfinity, notANumber} {
		wrong = append(wrong, impl.Fuse{Heat: x, Limit: 8, Cool: 1}, impl.Fuse{Heat: 1, Limit: x, Cool: 1}, impl.Fuse{Heat: 1, Limit: 8, Cool: x})
	}
	return wrong
}

// timeAt returns TimeAt, which must not fail.
func timeAt(t *testing.T, c impl.Curve, current float32) float32 {
	t.Helper()
	time, ok := impl.TimeAt(c, current)
	if !ok {
		t.Fatalf("TimeAt %v of %v: fails", current, c)
	}
	return time
}

// expectNoNumber reports a number that is not the zero value of a failure.
func expectNoNumber(t *testing.T, what string, got float32, ok bool) {
	t.Helper()
	expectFailure(t, what, digitsOf(got) == digitsOf(0), ok)
}

// expectNoCurve reports a curve that is not the zero value of a failure.
func expectNoCurve(t *testing.T, what string, got impl.Curve, ok bool) {
	t.Helper()
	expectFailure(t, what, len(got.Currents) == 0 && len(got.Times) == 0, ok)
}

// told tells a number and whether it is there.
func told(x float32, ok bool) string {
	return fmt.Sprint(digitsOf(x), " ", ok)
}

// devicesAt returns devices at some buses, of which every third one has the same curve.
func devicesAt(buses ...int64) []impl.Device {
	var devices []impl.Device
	for _, bus := range buses {
		devices = append(devices, impl.Device{Bus: bus, Curve: variedCurve(int(10 + (bus+3)%3))})
	}
	return devices
}

// allBuses are the indices of so many buses.
func allBuses(count int) []int64 {
	var buses []int64
	for bus := range int64(count) {
		buses = append(buses, bus)
	}
	return buses
}

// someDevices are devices of a feeder with so many buses: at each set of its
// buses if these are few, and otherwise at some sets.
func someDevices(count int) [][]impl.Device {
	if count > 5 {
		all := allBuses(count)
		return [][]impl.Device{nil, devicesAt(0), devicesAt(all...), devicesAt(all[1:]...), devicesAt(all[count/2], all[count-1])}
	}
	var lists [][]impl.Device
	for set := range 1 << count {
		var buses []int64
		for _, bus := range allBuses(count) {
			if set>>bus%2 == 1 {
				buses = append(buses, bus)
			}
		}
		lists = append(lists, devicesAt(buses...))
	}
	return lists
}

// changedDevices returns devices with a change of one of them.
func changedDevices(devices []impl.Device, at int, change func(d *impl.Device)) []impl.Device {
	changed := slices.Clone(devices)
	change(&changed[at])
	return changed
}

// wrongDevices are lists that are no devices of a feeder with so many buses, which are at least 4.
func wrongDevices(count int) map[string][]impl.Device {
	good := devicesAt(0, 2, 3)
	wrong := map[string][]impl.Device{
		"the same bus twice":       devicesAt(1, 1),
		"the root twice":           devicesAt(0, 0),
		"the same bus at the end":  devicesAt(0, 1, 2, 2),
		"another order":            devicesAt(2, 1),
		"the root behind others":   devicesAt(1, 2, 0),
		"another order at the end": devicesAt(0, 1, 3, 2),
		"a bus more":               devicesAt(allBuses(count + 1)...),
		"17 devices":               append(devicesAt(allBuses(count)...), devicesAt(repeated(int64(count-1), 17-count)...)...),
		"1000 devices":             devicesAt(allBuses(1000)...),
	}
	for at := range good {
		for _, bus := range absentBuses(treeOf(rowParents(count))) {
			wrong[fmt.Sprint("the bus ", bus, " at ", at)] = changedDevices(good, at, func(d *impl.Device) { d.Bus = bus })
		}
		for what, c := range wrongCurves() {
			wrong[fmt.Sprint("a curve with ", what, " at ", at)] = changedDevices(good, at, func(d *impl.Device) { d.Curve = c })
		}
	}
	return wrong
}
