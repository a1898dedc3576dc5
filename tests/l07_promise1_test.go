package tests

import (
	"fmt"
	"slices"
	"testing"

	"loop.example/g01212/impl"
)

// tellCurve tells what the functions of two curves and a current return.
func tellCurve(a, b impl.Curve, current float32) string {
	time, isTime := impl.TimeAt(a, current)
	scaled, isScaled := impl.ScaleCurve(a, current, 2)
	margin, isMargin := impl.MarginAt(a, b, current)
	text := fmt.Sprintln(impl.ValidCurve(a), impl.SameCurve(a, b), told(time, isTime), curveText(scaled), isScaled, told(margin, isMargin))
	for _, count := range []int64{-1, 0, 1, 7, 100, 101} {
		text += told(impl.GradeOf(a, b, current, 3, count)) + told(impl.GradeOf(b, a, 0.5, current, count))
	}
	return text
}

// tellDevices tells what the functions of a feeder and devices return.
func tellDevices(f impl.Feeder, devices []impl.Device, currents []float32) string {
	order, isOrder := impl.TripOrder(f, devices, currents)
	text := fmt.Sprintln(impl.AreDevices(f, devices), order, isOrder)
	for _, current := range []float32{0, 2, 7, positiveInfinity, notANumber} {
		pairs, isPairs := impl.UnsafePairs(f, devices, 1, current, 0.5, 3)
		text += fmt.Sprintln(pairs, isPairs)
		for _, bus := range append(absentBuses(f), 0, 1, 3) {
			above, isAbove := impl.DevicesAbove(f, devices, bus)
			first, time, isFirst := impl.FirstTrip(f, devices, bus, current)
			text += fmt.Sprintln(above, isAbove, first, told(time, isFirst))
		}
	}
	return text
}

// tellFuse tells what the functions of a fuse return.
func tellFuse(u impl.Fuse, currents []float32, ticks float32) string {
	text := fmt.Sprintln(impl.ValidFuse(u))
	for _, current := range currents {
		next, isBlown, ok := impl.HeatFuse(u, current, ticks)
		text += fmt.Sprintln(fuseText(next), isBlown, ok)
	}
	index, last, ok := impl.RunFuse(u, currents, ticks)
	return text + fmt.Sprintln(index, fuseText(last), ok)
}

// cloned returns a curve with lists of its own.
func cloned(c impl.Curve) impl.Curve {
	return impl.Curve{Currents: slices.Clone(c.Currents), Times: slices.Clone(c.Times)}
}

// Promise 1: the functions of curves return for all arguments, equal results for equal ones.
func TestCurvesReturn(t *testing.T) {
	for i, a := range anyCurves() {
		for _, b := range []impl.Curve{variedCurve(i), a, edgeCurves()[i%len(edgeCurves())], {}} {
			for _, current := range append(oddNumbers(), 0.3, 2, 5) {
				expect(t, "copies of curves", tellCurve(cloned(a), cloned(b), current), tellCurve(a, b, current))
				expectTwice(t, "curves the other way", b, func(b impl.Curve) string { return tellCurve(b, a, current) })
			}
		}
	}
}

// Promise 1: the functions of devices return for all arguments, equal results for equal ones.
func TestDevicesReturn(t *testing.T) {
	for what, f := range wrongFeeders() {
		for _, devices := range [][]impl.Device{nil, devicesAt(0), devicesAt(0, 1, 2), devicesAt(2, 1)} {
			expectTwice(t, what, f, func(f impl.Feeder) string { return tellDevices(f, devices, repeated(float32(2), len(f.Buses))) })
		}
	}
	for what, devices := range wrongDevices(5) {
		for _, f := range []impl.Feeder{treeOf(rowParents(5)), treeOf([]int64{-1})} {
			expectTwice(t, what, f, func(f impl.Feeder) string { return tellDevices(f, devices, currentsOf(len(f.Buses), 3)) })
		}
	}
	for n, f := range oddFeeders() {
		copied := impl.Feeder{Source: f.Source, Buses: slices.Clone(f.Buses)}
		for _, devices := range someDevices(5) {
			copies := slices.Clone(devices)
			for i := range copies {
				copies[i].Curve = cloned(copies[i].Curve)
			}
			currents := currentsOf(5, n)
			expect(t, "a copy of devices", tellDevices(copied, copies, slices.Clone(currents)), tellDevices(f, devices, currents))
		}
	}
}

// Promise 8: loads, lines and sources do not count for devices.
func TestDevicesInOddFeeders(t *testing.T) {
	bare := without(treeOf([]int64{-1, 0, 1, 1, 0}))
	for n, f := range oddFeeders() {
		for _, devices := range someDevices(5) {
			currents := currentsOf(5, n)
			expect(t, "devices in an odd feeder", tellDevices(f, devices, currents), tellDevices(bare, devices, currents))
		}
	}
}

// Promise 1: the functions of fuses return for all arguments, equal results for equal ones.
func TestFusesReturn(t *testing.T) {
	fuses := wrongFuses()
	for _, heat := range oddNumbers() {
		for _, limit := range oddNumbers() {
			for _, cool := range []float32{0, 0.1, negativeZero, greatestNumber, notANumber, heat} {
				fuses = append(fuses, impl.Fuse{Heat: heat, Limit: limit, Cool: cool})
			}
		}
	}
	for _, u := range fuses {
		for _, ticks := range oddNumbers() {
			expectTwice(t, fuseText(u), u, func(u impl.Fuse) string { return tellFuse(u, oddNumbers(), ticks) })
		}
	}
	expectTwice(t, "many currents", impl.Fuse{Limit: 3}, func(u impl.Fuse) string { return tellFuse(u, make([]float32, 1000), 1) })
}

// Promise 1: functions of curves, devices and fuses change neither lists nor what is behind them.
func TestCurvesStay(t *testing.T) {
	for n, parents := range someParents() {
		f, devices := treeOf(parents), devicesAt(allBuses(len(parents))...)
		wholeBuses, buses := guarded(f.Buses, impl.Bus{Parent: 77, Own: 7, Kind: 1})
		f.Buses = buses
		wholeDevices, devices := guarded(devices, impl.Device{Bus: 77})
		var lists [][]float32
		for i := range devices {
			wholeCurrents, currents := guarded(devices[i].Curve.Currents, 77)
			wholeTimes, times := guarded(devices[i].Curve.Times, 77)
			devices[i].Curve = impl.Curve{Currents: currents, Times: times}
			lists = append(lists, wholeCurrents, wholeTimes)
		}
		wholeCurrents, currents := guarded(currentsOf(len(parents), n), 77)
		lists = append(lists, wholeCurrents)
		tell := func() string {
			text := feederText(impl.Feeder{Source: f.Source, Buses: wholeBuses}) + devicesText(wholeDevices)
			for _, list := range lists {
				text += tellNumbers(list)
			}
			return text
		}
		before := tell()
		tellDevices(f, devices, currents)
		tellFuse(impl.Fuse{Limit: 100, Cool: 1}, currents, 1)
		for i := range devices {
			tellCurve(devices[i].Curve, devices[0].Curve, 2)
		}
		expect(t, "arguments behind all functions", tell(), before)
	}
}

// Promise 1: curves and lists that are returned are new each time, and share no memory among each other.
func TestCurvesAreNew(t *testing.T) {
	early, _ := twoCurves()
	f, devices, currents := treeOf(rowParents(16)), rowOfCurves(repeated(early, 16)...), repeated(float32(2), 16)
	tell := func() string {
		return feederText(f) + devicesText(devices) + tellNumbers(currents) + tellDevices(f, devices, currents) + tellCurve(early, early, 1)
	}
	before := tell()
	for _, by := range []float32{1, 2} {
		scaled, _ := impl.ScaleCurve(early, by, 1)
		clear(scaled.Currents[:cap(scaled.Currents)])
		expectNumber(t, "a time behind changed currents", scaled.Times[0], early.Times[0])
		clear(scaled.Times[:cap(scaled.Times)])
	}
	above, _ := impl.DevicesAbove(f, devices, 15)
	clear(above[:cap(above)])
	order, _ := impl.TripOrder(f, devices, currents)
	clear(order[:cap(order)])
	pairs, _ := impl.UnsafePairs(f, devices, 1, 3, 1, 2)
	for i, want := range allPairs(16) {
		expectList(t, "a pair behind changed ones", pairs[i], true, want)
		clear(pairs[i][:cap(pairs[i])])
	}
	expect(t, "all behind changed results", tell(), before)
}
