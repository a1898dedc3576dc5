package tests

import (
	"fmt"
	"slices"
	"testing"

	"loop.example/g01212/impl"
)

// deviceTrees are the parents of all trees of at most five buses, and of some at the limit of buses.
func deviceTrees() [][]int64 {
	return append(parentsUpTo(5), someParents()[len(parentsUpTo(6)):]...)
}

// Promise 8: devices stand at increasing buses, which can be the root, and have valid curves.
func TestAreDevices(t *testing.T) {
	for _, parents := range deviceTrees() {
		for _, devices := range someDevices(len(parents)) {
			if !impl.AreDevices(treeOf(parents), devices) {
				t.Errorf("AreDevices %v, %s: false", parents, devicesText(devices))
			}
		}
	}
	for _, count := range []int{4, 16} {
		for what, devices := range wrongDevices(count) {
			if impl.AreDevices(treeOf(rowParents(count)), devices) {
				t.Errorf("AreDevices with %s: true", what)
			}
		}
	}
	for what, f := range wrongFeeders() {
		for _, devices := range [][]impl.Device{nil, devicesAt(0), devicesAt(0, 1, 2)} {
			if impl.AreDevices(f, devices) {
				t.Errorf("AreDevices with %s: true", what)
			}
		}
	}
	for _, c := range someCurves() {
		if !impl.AreDevices(treeOf([]int64{-1, 0}), []impl.Device{{Bus: 0, Curve: c}, {Bus: 1, Curve: c}}) {
			t.Errorf("AreDevices with %v: false", c)
		}
	}
}

// devicesOn returns the indices of the devices that stand at some buses.
func devicesOn(devices []impl.Device, buses []int64) []int64 {
	var set []int64
	for i, d := range devices {
		if slices.Contains(buses, d.Bus) {
			set = append(set, int64(i))
		}
	}
	return set
}

// Promise 8: the devices above a bus are those on its path, that of the bus and that of the root among them.
func TestDevicesAbove(t *testing.T) {
	for _, parents := range deviceTrees() {
		for _, devices := range someDevices(len(parents)) {
			for bus := range int64(len(parents)) {
				above, ok := impl.DevicesAbove(treeOf(parents), devices, bus)
				expectList(t, fmt.Sprint("DevicesAbove ", bus, " in ", parents), above, ok, devicesOn(devices, pathOf(parents, bus)))
			}
		}
	}
	row := treeOf([]int64{-1, 0, 1, 1, 2})
	for bus, want := range [][]int64{{0}, {0}, {0, 1}, {0, 2}, {0, 1, 3}} {
		above, ok := impl.DevicesAbove(row, devicesAt(0, 2, 3, 4), int64(bus))
		expectList(t, fmt.Sprint("DevicesAbove ", bus), above, ok, want)
	}
}

// fastest returns which of some devices has the least time, of several the one
// with the greatest index, and this time.
func fastest(devices []impl.Device, which []int64, current float32) (int64, float32, bool) {
	first, least, isFound := int64(0), float32(0), false
	for _, i := range which {
		time, ok := impl.TimeAt(devices[i].Curve, current)
		if ok && (!isFound || time <= least) {
			first, least, isFound = i, time, true
		}
	}
	return first, least, isFound
}

// expectFirst reports another device or time than those that trip first.
func expectFirst(t *testing.T, f impl.Feeder, devices []impl.Device, bus int64, current float32, want int64, wantTime float32, wantOk bool) {
	t.Helper()
	first, time, ok := impl.FirstTrip(f, devices, bus, current)
	what := fmt.Sprint("FirstTrip at ", bus, " with ", current, " of ", devicesText(devices))
	expect(t, what, fmt.Sprint(first, " ", told(time, ok)), fmt.Sprint(want, " ", told(wantTime, wantOk)))
}

// someCurrents are currents at which all, some or none of the curves of devices have times.
func someCurrents() []float32 {
	return []float32{
		0, negativeZero, leastSubnormal, 0.1, 0.2, nextDown(0.5), 0.5, 0.6, 1, 1.5, 2, 3.3, 4, 5.7, 8, 100,
		greatestNumber, positiveInfinity, -1, negativeInfinity, notANumber,
	}
}

// Promise 8: the device that trips first is the fastest one above, on all small trees with devices at all sets of buses.
func TestFirstTrip(t *testing.T) {
	for _, parents := range deviceTrees() {
		f := treeOf(parents)
		for _, devices := range someDevices(len(parents)) {
			for bus := range int64(len(parents)) {
				on := devicesOn(devices, pathOf(parents, bus))
				for _, current := range someCurrents() {
					want, wantTime, wantOk := fastest(devices, on, current)
					expectFirst(t, f, devices, bus, current, want, wantTime, wantOk)
				}
			}
		}
	}
}

// Promise 8: of devices with the same time the greatest index trips first, and devices on other branches do not count.
func TestFirstTripOfSameTimes(t *testing.T) {
	slow := curveOf([2]float32{1, 9}, [2]float32{3, 4})
	fast := curveOf([2]float32{2, 4}, [2]float32{4, 1})
	flat := curveOf([2]float32{0.5, 4}, [2]float32{1, 4})
	f := treeOf([]int64{-1, 0, 1, 1, 2})
	devices := []impl.Device{{Bus: 0, Curve: flat}, {Bus: 1, Curve: slow}, {Bus: 2, Curve: fast}, {Bus: 3, Curve: flat}, {Bus: 4, Curve: slow}}
	cases := []struct {
		bus     int64
		current float32
		first   int64
		time    float32
		trips   bool
	}{
		{0, 0.5, 0, 4, true}, {0, 1, 0, 4, true}, {0, 0.4, 0, 0, false}, {1, 1, 0, 4, true}, {1, 3, 1, 4, true}, {1, 2.5, 0, 4, true},
		{2, 1, 0, 4, true}, {2, 2, 2, 4, true}, {2, 3, 2, 2.5, true}, {3, 0.5, 3, 4, true}, {3, 3, 3, 4, true}, {4, 2, 2, 4, true},
		{4, 1, 0, 4, true}, {4, 3, 2, 2.5, true}, {4, 100, 2, 1, true}, {4, 0.1, 0, 0, false},
	}
	for _, c := range cases {
		expectFirst(t, f, devices, c.bus, c.current, c.first, c.time, c.trips)
	}
	for _, current := range []float32{0.1, 1, 50} {
		expectFirst(t, f, nil, 4, current, 0, 0, false)
		expectFirst(t, f, devices[2:3], 3, current, 0, 0, false)
		expectFirst(t, f, devices[3:], 2, current, 0, 0, false)
	}
	same := []impl.Device{{Bus: 0, Curve: fast}, {Bus: 1, Curve: fast}, {Bus: 2, Curve: fast}, {Bus: 4, Curve: fast}}
	for bus, want := range []int64{0, 1, 2, 1, 3} {
		expectFirst(t, f, same, int64(bus), 2, want, 4, true)
		expectFirst(t, f, same, int64(bus), 9, want, 1, true)
	}
}

// orderOf returns the devices that trip in order, found one after another.
func orderOf(devices []impl.Device, currents []float32) []int64 {
	var order []int64
	for range devices {
		next, least := int64(-1), positiveInfinity
		for i, d := range devices {
			time, ok := impl.TimeAt(d.Curve, currents[d.Bus])
			if ok && time <= least && !slices.Contains(order, int64(i)) {
				next, least = int64(i), time
			}
		}
		if next < 0 {
			break
		}
		order = append(order, next)
	}
	return order
}

// currentsOf returns currents of so many buses, by which some devices trip and others do not.
func currentsOf(count, n int) []float32 {
	list := someCurrents()
	var currents []float32
	for bus := range count {
		currents = append(currents, list[(n*(bus+1)+bus*bus)%len(list)])
	}
	return currents
}

// Promise 8: devices trip in the order of their times, each at the current of its own bus.
func TestTripOrder(t *testing.T) {
	for _, parents := range deviceTrees() {
		for _, devices := range someDevices(len(parents)) {
			for n := range 21 {
				currents := currentsOf(len(parents), n)
				order, ok := impl.TripOrder(treeOf(parents), devices, currents)
				expectList(t, fmt.Sprint("TripOrder at ", currents), order, ok, orderOf(devices, currents))
			}
			for _, current := range []float32{0, 1, 4, positiveInfinity} {
				currents := repeated(current, len(parents))
				order, ok := impl.TripOrder(treeOf(parents), devices, currents)
				expectList(t, fmt.Sprint("TripOrder at ", currents), order, ok, orderOf(devices, currents))
			}
		}
	}
}

// Promise 8: of devices at the same time those with greater indices come first, and those that do not trip are none.
func TestTripOrderOfSameTimes(t *testing.T) {
	curve := curveOf([2]float32{1, 9}, [2]float32{3, 4})
	var devices []impl.Device
	for _, bus := range allBuses(16) {
		devices = append(devices, impl.Device{Bus: bus, Curve: curve})
	}
	backward := allBuses(16)
	slices.Reverse(backward)
	cases := []struct {
		change func(currents []float32)
		want   []int64
	}{
		{func(currents []float32) {}, backward},
		{func(currents []float32) { currents[5] = 4 }, slices.Concat([]int64{5}, backward[:10], backward[11:])},
		{func(currents []float32) { currents[15], currents[0] = 1, 1 }, slices.Concat(backward[1:15], []int64{15, 0})},
		{func(currents []float32) { currents[3], currents[4], currents[9] = 0.5, notANumber, -2 }, []int64{15, 14, 13, 12, 11, 10, 8, 7, 6, 5, 2, 1, 0}},
		{func(currents []float32) { clear(currents) }, nil},
		{func(currents []float32) { clear(currents); currents[7] = positiveInfinity }, []int64{7}},
	}
	for _, c := range cases {
		currents := repeated(float32(2), 16)
		c.change(currents)
		for _, parents := range [][]int64{rowParents(16), starParents(16)} {
			order, ok := impl.TripOrder(treeOf(parents), devices, currents)
			expectList(t, fmt.Sprint("TripOrder at ", currents), order, ok, c.want)
		}
	}
	f := treeOf([]int64{-1, 0, 0, 2})
	order, ok := impl.TripOrder(f, devices[1:3], []float32{3, 1, 2, 3})
	expectList(t, "TripOrder of two", order, ok, []int64{1, 0})
	order, ok = impl.TripOrder(f, devices[1:3], []float32{3, 2, 1, 3})
	expectList(t, "TripOrder of two", order, ok, []int64{0, 1})
	order, ok = impl.TripOrder(f, nil, []float32{3, 2, 1, 3})
	expectList(t, "TripOrder of none", order, ok, nil)
}

// Promise 1: devices that are none, and feeders that are not valid, make functions of devices fail with zero values.
func TestWrongDevicesFail(t *testing.T) {
	for _, count := range []int{4, 16} {
		for what, devices := range wrongDevices(count) {
			checkDevicesFail(t, what, treeOf(rowParents(count)), devices)
		}
	}
	for what, f := range wrongFeeders() {
		for _, devices := range [][]impl.Device{nil, devicesAt(0), devicesAt(0, 1)} {
			checkDevicesFail(t, what, f, devices)
		}
	}
}

// checkDevicesFail calls all functions of a feeder and devices that must fail.
func checkDevicesFail(t *testing.T, what string, f impl.Feeder, devices []impl.Device) {
	t.Helper()
	for bus := range int64(4) {
		above, ok := impl.DevicesAbove(f, devices, bus)
		expectFailure(t, "DevicesAbove with "+what, len(above) == 0, ok)
		for _, current := range []float32{0, 3, positiveInfinity} {
			first, time, ok := impl.FirstTrip(f, devices, bus, current)
			expectFailure(t, "FirstTrip with "+what, first == 0 && digitsOf(time) == digitsOf(0), ok)
		}
	}
	for _, current := range []float32{0, 3} {
		order, ok := impl.TripOrder(f, devices, repeated(current, len(f.Buses)))
		expectFailure(t, "TripOrder with "+what, len(order) == 0, ok)
	}
	for _, margin := range []float32{-1000, 1000} {
		pairs, ok := impl.UnsafePairs(f, devices, 1, 3, margin, 2)
		expectFailure(t, "UnsafePairs with "+what, len(pairs) == 0, ok)
	}
}

// Promise 1: buses that are not there, and lists of another length, make functions of devices fail with zero values.
func TestAbsentBusesOfDevicesFail(t *testing.T) {
	for _, parents := range [][]int64{{-1}, {-1, 0, 0, 1}, rowParents(16)} {
		f := treeOf(parents)
		for _, devices := range [][]impl.Device{nil, devicesAt(0), devicesAt(allBuses(len(parents))...)} {
			for _, bus := range absentBuses(f) {
				above, ok := impl.DevicesAbove(f, devices, bus)
				expectFailure(t, fmt.Sprint("DevicesAbove ", bus), len(above) == 0, ok)
				expectFirst(t, f, devices, bus, 3, 0, 0, false)
			}
			for _, count := range []int{0, 1, len(parents) - 1, len(parents) + 1, 17, 256, 1000} {
				if count != len(parents) {
					order, ok := impl.TripOrder(f, devices, repeated(float32(3), count))
					expectFailure(t, fmt.Sprint("TripOrder at ", count, " currents"), len(order) == 0, ok)
				}
			}
			order, ok := impl.TripOrder(f, devices, nil)
			expectFailure(t, "TripOrder at nil", len(order) == 0, ok)
		}
	}
}
