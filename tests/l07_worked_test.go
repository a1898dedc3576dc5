package tests

import (
	"fmt"
	"strings"
	"testing"

	"loop.example/g01212/impl"
)

// curve returns the next words as a curve.
func (w *words) curve() impl.Curve {
	w.t.Helper()
	count := int(w.integer())
	currents := w.numbers(count)
	return impl.Curve{Currents: currents, Times: w.numbers(count)}
}

// toldNumber returns the next word as what told tells of a number.
func (w *words) toldNumber() string {
	w.t.Helper()
	if w.failsNext() {
		return told(0, false)
	}
	return told(w.number(), true)
}

// Promise 8: times of curves are told to the last bit, and whether there are any.
func TestWorkedTimes(t *testing.T) {
	for i, row := range rowsOf(curveRows) {
		w := &words{t: t, left: row}
		c := w.curve()
		for range w.integer() {
			current := w.number()
			time, ok := impl.TimeAt(c, current)
			expect(t, fmt.Sprint("TimeAt ", current, " of the row ", i), told(time, ok), w.toldNumber())
		}
		w.end(fmt.Sprint("row ", i))
	}
}

// Promise 8: scaled curves are told to the last bit, and whether they are valid.
func TestWorkedScales(t *testing.T) {
	for i, row := range rowsOf(curveScaleRows) {
		what := fmt.Sprint("ScaleCurve of the row ", i)
		w := &words{t: t, left: row}
		c := w.curve()
		currents := w.number()
		scaled, ok := impl.ScaleCurve(c, currents, w.number())
		if w.failsNext() {
			expectNoCurve(t, what, scaled, ok)
		} else {
			want := impl.Curve{Currents: w.numbers(len(c.Currents))}
			want.Times = w.numbers(len(c.Currents))
			expect(t, what, curveText(scaled)+fmt.Sprint(ok), curveText(want)+"true")
		}
		w.end(what)
	}
}

// Promise 8: margins and grades are told to the last bit, and whether there are any.
func TestWorkedGrades(t *testing.T) {
	for i, row := range rowsOf(gradeRows) {
		w := &words{t: t, left: row}
		a, b := w.curve(), w.curve()
		low, high, count := w.number(), w.number(), w.integer()
		margin, ok := impl.MarginAt(a, b, low)
		expect(t, fmt.Sprint("MarginAt of the row ", i), told(margin, ok), w.toldNumber())
		grade, ok := impl.GradeOf(a, b, low, high, count)
		expect(t, fmt.Sprint("GradeOf of the row ", i), told(grade, ok), w.toldNumber())
		w.end(fmt.Sprint("row ", i))
	}
}

// tree returns the next words as a feeder, of which they tell the parents.
func (w *words) tree() impl.Feeder {
	w.t.Helper()
	var parents []int64
	for range w.integer() {
		parents = append(parents, w.integer())
	}
	return treeOf(parents)
}

// devices returns the next words as devices.
func (w *words) devices() []impl.Device {
	w.t.Helper()
	var devices []impl.Device
	for range w.integer() {
		bus := w.integer()
		devices = append(devices, impl.Device{Bus: bus, Curve: w.curve()})
	}
	return devices
}

// pairsText tells pairs as the rows do.
func pairsText(pairs [][]int64) string {
	if len(pairs) == 0 {
		return "none"
	}
	var texts []string
	for _, pair := range pairs {
		texts = append(texts, strings.ReplaceAll(setText(pair), ",", "-"))
	}
	return strings.Join(texts, ",")
}

// Promise 8: what devices do is told, which trips first, in which order they trip, and which of them are unsafe.
func TestWorkedDevices(t *testing.T) {
	for i, row := range rowsOf(deviceRows) {
		what := fmt.Sprint("of the row ", i)
		w := &words{t: t, left: row}
		f, devices, current := w.tree(), w.devices(), w.number()
		for bus := range int64(len(f.Buses)) {
			if w.failsNext() {
				expectFirst(t, f, devices, bus, current, 0, 0, false)
				continue
			}
			first := w.integer()
			expectFirst(t, f, devices, bus, current, first, w.number(), true)
		}
		order, ok := impl.TripOrder(f, devices, w.numbers(len(f.Buses)))
		expect(t, "TripOrder "+what, fmt.Sprint(setText(order), ok), w.word()+"true")
		low, high := w.number(), w.number()
		margin, count := w.number(), w.integer()
		pairs, ok := impl.UnsafePairs(f, devices, low, high, margin, count)
		expect(t, "UnsafePairs "+what, pairsText(pairs)+fmt.Sprint(ok), w.word()+"true")
		w.end(what)
	}
}

// Promise 8: the heat of fuses is told to the last bit, and when they blow.
func TestWorkedFuses(t *testing.T) {
	for i, row := range rowsOf(fuseRows) {
		what := fmt.Sprint("of the row ", i)
		w := &words{t: t, left: row}
		u := impl.Fuse{Heat: w.number(), Limit: w.number(), Cool: w.number()}
		ticks, count := w.number(), int(w.integer())
		currents := w.numbers(count)
		if w.failsNext() {
			expectNoHeat(t, u, currents[0], ticks)
		} else {
			heat := w.number()
			expectHeat(t, u, currents[0], ticks, heat, w.word() == "1")
		}
		if w.failsNext() {
			expectNoRun(t, u, currents, ticks)
		} else {
			index := w.integer()
			expectRun(t, u, currents, ticks, index, w.number())
		}
		w.end(what)
	}
}
