package tests

import (
	"slices"
	"strconv"
	"strings"
	"testing"

	"loop.example/g01212/impl"
)

// keptBuses returns the buses at a list of indices; each Parent is looked for by
// the customers of the bus, of which each bus of treeOf has another number.
func keptBuses(f impl.Feeder, kept []int64) []impl.Bus {
	places := map[int64]int64{}
	for place, at := range kept {
		places[f.Buses[at].Customers] = int64(place)
	}
	var buses []impl.Bus
	for _, at := range kept {
		b := f.Buses[at]
		if b.Parent >= 0 {
			place, isKept := places[f.Buses[b.Parent].Customers]
			if b.Parent = place; !isKept {
				b.Parent = -1
			}
		}
		buses = append(buses, b)
	}
	return buses
}

// othersOf returns the buses on whose path a bus is not.
func othersOf(parents []int64, bus int64) []int64 {
	var list []int64
	for i := range parents {
		if !slices.Contains(pathOf(parents, int64(i)), bus) {
			list = append(list, int64(i))
		}
	}
	return list
}

var otherSource = impl.Phases{A: complex(negativeZero, 7), B: complex(notANumber, 1), C: complex(-3, positiveInfinity)}

// Promise 3: what is left behind a cut is what it was.
func TestCutFeeder(t *testing.T) {
	for _, parents := range someParents() {
		f := treeOf(parents)
		f.Buses[0].Own = complex(negativeZero, 0)
		for bus := int64(1); bus < int64(len(parents)); bus++ {
			cut, ok := impl.CutFeeder(f, bus)
			want := impl.Feeder{Source: f.Source, Buses: keptBuses(f, othersOf(parents, bus))}
			expectFeeder(t, "CutFeeder", cut, ok, want)
			if !impl.ValidFeeder(cut) {
				t.Errorf("CutFeeder %v, %d: not valid", parents, bus)
			}
		}
		cut, ok := impl.CutFeeder(f, 0)
		expectNoFeeder(t, "CutFeeder at the root", cut, ok)
	}
}

// Promise 3: a part that is cut off is what it was, but for the line to it.
func TestPartFeeder(t *testing.T) {
	for _, parents := range someParents() {
		f := treeOf(parents)
		f.Buses[0].Own, f.Buses[0].Shared = complex(negativeZero, 0), complex(0, negativeZero)
		for i := range parents {
			part, ok := impl.PartFeeder(f, int64(i), otherSource)
			want := impl.Feeder{Source: otherSource, Buses: keptBuses(f, belowOf(parents, int64(i)))}
			want.Buses[0].Own, want.Buses[0].Shared = 0, 0
			expectFeeder(t, "PartFeeder", part, ok, want)
			if !impl.ValidFeeder(part) {
				t.Errorf("PartFeeder %v, %d: not valid", parents, i)
			}
		}
	}
}

// graftedBuses returns the buses of f, and those of part behind them.
func graftedBuses(f impl.Feeder, at int64, part impl.Feeder, own, shared complex64) []impl.Bus {
	buses := slices.Clone(f.Buses)
	for _, b := range part.Buses {
		if b.Parent < 0 {
			b.Parent, b.Own, b.Shared = at, own, shared
		} else {
			b.Parent += int64(len(f.Buses))
		}
		buses = append(buses, b)
	}
	return buses
}

// Promise 3: grafted parts are what they were, and so is what they are grafted to.
func TestGraftFeeder(t *testing.T) {
	for _, parents := range parentsUpTo(4) {
		for _, partParents := range parentsUpTo(4) {
			f, part := treeOf(parents), treeOf(partParents)
			part.Source, part.Buses[0].Shared = otherSource, complex(negativeZero, negativeZero)
			for i := range parents {
				at := int64(i)
				own, shared := complex(negativeZero, notANumber), complex(float32(3), 0.25)
				graft, ok := impl.GraftFeeder(f, at, part, own, shared)
				expectFeeder(t, "GraftFeeder", graft, ok, impl.Feeder{Source: f.Source, Buses: graftedBuses(f, at, part, own, shared)})
				again, ok := impl.CutFeeder(graft, int64(len(parents)))
				expectFeeder(t, "CutFeeder behind GraftFeeder", again, ok, f)
				want := part
				want.Buses = slices.Clone(part.Buses)
				want.Buses[0].Shared = 0
				again, ok = impl.PartFeeder(graft, int64(len(parents)), otherSource)
				expectFeeder(t, "PartFeeder behind GraftFeeder", again, ok, want)
			}
		}
	}
}

// Promise 3: a part that is cut off and grafted again, where it was, leads to
// the same tree, in which the part is behind the others.
func TestCutAndGraft(t *testing.T) {
	for _, parents := range someParents() {
		f := treeOf(parents)
		for bus := int64(1); bus < int64(len(parents)); bus++ {
			others, below := othersOf(parents, bus), belowOf(parents, bus)
			cut, isCut := impl.CutFeeder(f, bus)
			part, isPart := impl.PartFeeder(f, bus, f.Source)
			at := int64(slices.Index(others, parents[bus]))
			graft, isGraft := impl.GraftFeeder(cut, at, part, f.Buses[bus].Own, f.Buses[bus].Shared)
			want := impl.Feeder{Source: f.Source, Buses: keptBuses(f, slices.Concat(others, below))}
			expectFeeder(t, "CutFeeder, PartFeeder and GraftFeeder", graft, isCut && isPart && isGraft, want)
			if bus == int64(len(parents)-1) && !impl.SameFeeder(graft, f) {
				t.Errorf("GraftFeeder of the last bus of %v: not the same feeder", parents)
			}
		}
	}
}

// Promise 1: grafting reaches the limit of buses, and fails one beyond it.
func TestGraftAtTheLimit(t *testing.T) {
	for count := 1; count <= 16; count++ {
		f := treeOf(rowParents(count))
		for others := 1; others <= 16; others++ {
			part := treeOf(starParents(others))
			graft, ok := impl.GraftFeeder(f, int64(count-1), part, 1, 2)
			if count+others > 16 {
				expectNoFeeder(t, "GraftFeeder beyond the limit", graft, ok)
				continue
			}
			expectFeeder(t, "GraftFeeder up to the limit", graft, ok, impl.Feeder{Source: f.Source, Buses: graftedBuses(f, int64(count-1), part, 1, 2)})
		}
	}
}

// Promise 3: a feeder whose phases go around has all else as it was.
func TestNextFeeder(t *testing.T) {
	for _, p := range oddPhases() {
		f := treeOf([]int64{-1, 0, 1, 0})
		f.Source, f.Buses[2].Load = p, p
		f.Buses[0].Own, f.Buses[1].Own = complex(negativeZero, 0), p.A
		want := impl.Feeder{Source: impl.Phases{A: p.C, B: p.A, C: p.B}, Buses: slices.Clone(f.Buses)}
		for i, b := range f.Buses {
			want.Buses[i].Load = impl.Phases{A: b.Load.C, B: b.Load.A, C: b.Load.B}
		}
		next, ok := impl.NextFeeder(f)
		expectFeeder(t, "NextFeeder", next, ok, want)
		next, _ = impl.NextFeeder(next)
		next, ok = impl.NextFeeder(next)
		expectFeeder(t, "NextFeeder three times", next, ok, f)
	}
}

// Promise 3: loads are scaled to the last bit, in each phase on its own; all else stays.
func TestScaledRows(t *testing.T) {
	for _, row := range rowsOf(scaledRows) {
		kind, err := strconv.ParseInt(row[0], 10, 64)
		if err != nil {
			t.Fatalf("row: %v", err)
		}
		load, by, want := complexOf(t, row[1:]), numberOf(t, row[3]), complexOf(t, row[4:])
		zero := impl.ScaleComplex(0, by)
		for place := range 3 {
			f := treeOf([]int64{-1, 0, 0})
			for i := range f.Buses {
				f.Buses[i].Kind, f.Buses[i].Load = kind, placed(load, place, 0)
			}
			got, ok := impl.ScaleLoads(f, by)
			for i := range f.Buses {
				f.Buses[i].Load = placed(want, place, zero)
			}
			expectFeeder(t, "ScaleLoads "+strings.Join(row[:4], " "), got, ok, f)
		}
	}
}

// Promise 3: each bus is scaled as its Kind has it.
func TestScaleLoads(t *testing.T) {
	f := treeOf(rowParents(4))
	got, ok := impl.ScaleLoads(f, 2)
	if !ok || len(got.Buses) != 4 {
		t.Fatalf("ScaleLoads: got %v, %v", got, ok)
	}
	want := []impl.Phases{
		{A: complex(2, 2), B: complex(4, 2), C: complex(-2, -2)},
		{A: complex(4, 2), B: complex(4, 4), C: complex(-4, -4)},
		{A: complex(1.5, 0.5), B: complex(1, 1.5), C: complex(-1.5, -1.5)},
		{A: complex(8, 2), B: complex(4, 8), C: complex(-8, -8)},
	}
	for i, p := range want {
		expectPhases(t, "ScaleLoads", got.Buses[i].Load, p)
	}
}
