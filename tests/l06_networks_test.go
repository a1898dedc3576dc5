package tests

import (
	"fmt"
	"testing"

	"loop.example/g01212/impl"
)

// faultTrees are the parents of all trees of at most five buses, and of some at the limit of buses.
func faultTrees() [][]int64 {
	return append(parentsUpTo(5), someParents()[len(parentsUpTo(6)):]...)
}

// faultsOf are faults of all kinds at all buses of a feeder, none of which fails.
func faultsOf(f impl.Feeder) []place {
	var faults []place
	for bus := range int64(len(f.Buses)) {
		for _, kind := range faultKinds() {
			for _, through := range []complex64{0, complex(0.5, 3), -0.25} {
				if bus > 0 || through != 0 && kind != impl.FaultBoth {
					faults = append(faults, place{bus, kind, through})
				}
			}
		}
	}
	return faults
}

// Promise 7: the buses that two paths have in common are the ones with which both begin.
func TestCommonPath(t *testing.T) {
	for _, parents := range someParents() {
		f := treeOf(parents)
		for a := range int64(len(parents)) {
			for b := range int64(len(parents)) {
				common, ok := impl.CommonPath(f, a, b)
				expectList(t, fmt.Sprint("CommonPath ", parents, a, b), common, ok, commonOf(parents, a, b))
			}
			itself, ok := impl.CommonPath(f, a, a)
			expectList(t, "CommonPath of a bus and itself", itself, ok, pathOf(parents, a))
			root, ok := impl.CommonPath(f, a, 0)
			expectList(t, "CommonPath of a bus and the root", root, ok, []int64{0})
		}
	}
	f := treeOf([]int64{-1, 0, 1, 1, 3, 0})
	for want, pairs := range map[string][][2]int64{"[0 1]": {{2, 3}, {4, 2}, {1, 4}, {4, 1}}, "[0]": {{5, 4}, {1, 5}}, "[0 1 3]": {{3, 4}, {4, 3}}} {
		for _, pair := range pairs {
			common, ok := impl.CommonPath(f, pair[0], pair[1])
			expect(t, fmt.Sprint("CommonPath ", pair, ok), fmt.Sprint(common), want)
		}
	}
}

// Promise 7: the currents of a fault in a feeder are those behind the impedances of its path.
func TestFaultCurrents(t *testing.T) {
	for _, parents := range faultTrees() {
		f := treeOf(parents)
		for _, fault := range faultsOf(f) {
			source, zero, plus := parted(f, pathOf(parents, fault.bus))
			x := arguments{source, zero, plus, fault.kind, fault.through}
			expectPhases(t, fmt.Sprint("FaultCurrents ", parents, fault), fault.currents(t, f), impl.PhasesOf(x.parts(t)))
		}
	}
}

// checkVoltagesOf compares the voltages in a fault with those that the impedances leave
// that the paths have in common.
func checkVoltagesOf(t *testing.T, f impl.Feeder, parents []int64, fault place) {
	t.Helper()
	source, zero, plus := parted(f, pathOf(parents, fault.bus))
	i := arguments{source, zero, plus, fault.kind, fault.through}.parts(t)
	for at := range int64(len(parents)) {
		source, zero, plus := parted(f, commonOf(parents, fault.bus, at))
		want := impl.PhasesOf(impl.Parts{
			Zero:  complex64(0) - impl.MulComplex(zero, i.Zero),
			Plus:  source - impl.MulComplex(plus, i.Plus),
			Minus: complex64(0) - impl.MulComplex(plus, i.Minus),
		})
		expectPhases(t, fmt.Sprint("FaultVoltages ", parents, fault, at), fault.voltages(t, f, at), want)
	}
}

// Promise 7: the voltages in a fault are those that the impedances leave that both paths have in common.
func TestFaultVoltages(t *testing.T) {
	for _, parents := range faultTrees() {
		f := treeOf(parents)
		for _, fault := range faultsOf(f) {
			checkVoltagesOf(t, f, parents, fault)
		}
	}
}

// Promise 7: the root keeps the Plus of its source in any fault, and buses beside
// the path or behind the fault have the voltages of the last bus they share with it.
func TestVoltagesBesideThePath(t *testing.T) {
	for _, parents := range faultTrees() {
		f := treeOf(parents)
		even := impl.PhasesOf(impl.Parts{Plus: impl.PartsOf(f.Source).Plus})
		for _, fault := range faultsOf(f) {
			expectPhases(t, fmt.Sprint("the root in ", fault), fault.voltages(t, f, 0), even)
			for at := range int64(len(parents)) {
				common := commonOf(parents, fault.bus, at)
				last := common[len(common)-1]
				expectPhases(t, fmt.Sprint(at, " in ", fault), fault.voltages(t, f, at), fault.voltages(t, f, last))
			}
		}
	}
}

// Promise 7: at the bus of a fault, its currents and voltages are as its kind tells, nearly.
func TestFaultsAtTheirBuses(t *testing.T) {
	for _, parents := range faultTrees() {
		f := treeOf(parents)
		for _, fault := range faultsOf(f) {
			i, v := fault.currents(t, f), fault.voltages(t, f, fault.bus)
			_, zero, plus := parted(f, pathOf(parents, fault.bus))
			behind := impl.LongOf(zero) + 2*impl.LongOf(plus) + 3*impl.LongOf(fault.through)
			great := impl.GreatestOf(i)
			wideI := widePhases{complex128(i.A), complex128(i.B), complex128(i.C)}
			wideV := widePhases{complex128(v.A), complex128(v.B), complex128(v.C)}
			currents, voltages := lawsOf(fault.kind, wideI, wideV, complex128(fault.through))
			for _, current := range currents {
				if !(impl.LongOf(complex64(current)) <= 1e-6*great) {
					t.Errorf("FaultCurrents %v in %v: got %v", fault, parents, i)
				}
			}
			for _, voltage := range voltages {
				if !(impl.LongOf(complex64(voltage)) <= 1e-6*(impl.GreatestOf(f.Source)+behind*great)) {
					t.Errorf("FaultVoltages %v in %v: got %v for the currents %v", fault, parents, v, i)
				}
			}
		}
	}
}

// Promise 7: along the path of a fault, each line takes from the voltages what its currents drop, nearly.
func TestDropsOfFaults(t *testing.T) {
	for _, parents := range faultTrees() {
		f := treeOf(parents)
		for _, fault := range faultsOf(f) {
			i := fault.currents(t, f)
			for at := range int64(len(parents)) {
				if at == 0 {
					continue
				}
				var drop impl.Phases
				if common := commonOf(parents, fault.bus, at); common[len(common)-1] == at {
					drop = impl.DropOf(f.Buses[at], i)
				}
				want := impl.LessPhases(fault.voltages(t, f, parents[at]), drop)
				_, zero, plus := parted(f, pathOf(parents, at))
				of := impl.GreatestOf(f.Source) + (impl.LongOf(zero)+2*impl.LongOf(plus))*impl.GreatestOf(i)
				expectNear(t, fmt.Sprint("the drop to ", at, " in ", fault), fault.voltages(t, f, at), want, 2e-6, of)
			}
		}
	}
}

// Promise 7: faults at a root without an impedance fail, and those through one take all of the source's Plus.
func TestFaultsAtRoots(t *testing.T) {
	for _, parents := range append(faultTrees()[:12], rowParents(16), starParents(16)) {
		f := treeOf(parents)
		f.Buses[0].Own, f.Buses[0].Shared = complex(negativeZero, 0), complex(0, negativeZero)
		for _, kind := range faultKinds() {
			for _, through := range []complex64{0, complex(negativeZero, 0), complex(negativeZero, negativeZero)} {
				currents, ok := impl.FaultCurrents(f, 0, kind, through)
				expectNoPhases(t, "FaultCurrents at a root", currents, ok)
				for at := range parents {
					voltages, ok := impl.FaultVoltages(f, 0, kind, through, int64(at))
					expectNoPhases(t, "FaultVoltages at a root", voltages, ok)
				}
				expectNumber(t, "FaultTable at a root", faultTable(t, f, kind, through)[0], positiveInfinity)
			}
		}
		plus := impl.PartsOf(f.Source).Plus
		all := impl.PhasesOf(impl.Parts{Plus: impl.QuotientOf(plus, complex(0, 2))})
		expectPhases(t, "FaultThree at a root", place{0, impl.FaultThree, complex(0, 2)}.currents(t, f), all)
		one := impl.QuotientOf(plus, complex(0, 6))
		expectPhases(t, "FaultGround at a root", place{0, impl.FaultGround, complex(0, 2)}.currents(t, f), impl.PhasesOf(impl.Parts{Zero: one, Plus: one, Minus: one}))
		currents, ok := impl.FaultCurrents(f, 0, impl.FaultBoth, complex(0, 2))
		expectNoPhases(t, "FaultBoth at a root", currents, ok)
	}
}

// Promise 7: a fault through the opposite of the impedance of its path fails, at its bus alone.
func TestFaultsThroughOpposites(t *testing.T) {
	f := treeOf([]int64{-1, 0, 1, 1})
	for i := range f.Buses {
		f.Buses[i].Shared = 0
	}
	_, zero, plus := parted(f, []int64{0, 1, 2})
	expectComplex(t, "the impedance of the path for Zero", zero, complex(5, 10))
	expectComplex(t, "the impedance of the path for Plus", plus, complex(5, 10))
	opposites := map[int64]complex64{impl.FaultThree: -plus, impl.FaultGround: -plus, impl.FaultPair: -2 * plus, impl.FaultBoth: -0.5 * plus}
	for kind, through := range opposites {
		for bus := range int64(4) {
			currents, ok := impl.FaultCurrents(f, bus, kind, through)
			voltages, isThere := impl.FaultVoltages(f, bus, kind, through, 1)
			if bus != 2 && (bus > 0 || kind != impl.FaultBoth) {
				expect(t, fmt.Sprint("the kind ", kind, " at ", bus), fmt.Sprint(ok, isThere), "true true")
				continue
			}
			expectNoPhases(t, "FaultCurrents through an opposite", currents, ok)
			expectNoPhases(t, "FaultVoltages through an opposite", voltages, isThere)
			expectNumber(t, "FaultTable through an opposite", faultTable(t, f, kind, through)[bus], positiveInfinity)
		}
	}
}

// Promise 7: loads and customers do not count in faults.
func TestLoadsDoNotCount(t *testing.T) {
	for _, f := range append(oddFeeders(), treeOf(rowParents(16)), treeOf(starParents(16))) {
		for i, p := range oddPhases() {
			f.Buses[i%len(f.Buses)].Load = p
		}
		for _, kind := range append(faultKinds(), wrongKinds()...) {
			expect(t, "a feeder without loads", tellFaults(without(f), kind, complex(0.5, 1)), tellFaults(f, kind, complex(0.5, 1)))
		}
	}
}

// Promise 7: the source counts with its Plus alone.
func TestSourcesCountWithPlus(t *testing.T) {
	f := treeOf([]int64{-1, 0, 1})
	fault := place{2, impl.FaultThree, 0}
	for _, x := range []complex64{240, complex(0, -3)} {
		f.Source = sameThree(x)
		expectNear(t, "FaultCurrents of a source without Plus", fault.currents(t, f), impl.Phases{}, 1e-6, impl.LongOf(x))
		f.Source = impl.EvenPhases(x)
		even := fault.currents(t, f)
		f.Source = impl.AddPhases(f.Source, sameThree(16*x))
		expectNear(t, "FaultCurrents of a source with Zero", fault.currents(t, f), even, 1e-6, impl.LongOf(16*x))
		f.Source = impl.Phases{A: 3 * x}
		expectNear(t, "FaultCurrents of a source of one phase", fault.currents(t, f), even, 1e-6, impl.LongOf(x))
	}
}

// zeroSources are phases of zeros with all signs.
func zeroSources() []impl.Phases {
	var list []impl.Phases
	for signs := range 64 {
		var zeros [6]float32
		for i := range zeros {
			if signs>>i&1 == 1 {
				zeros[i] = negativeZero
			}
		}
		list = append(list, impl.Phases{A: complex(zeros[0], zeros[1]), B: complex(zeros[2], zeros[3]), C: complex(zeros[4], zeros[5])})
	}
	return list
}

// Promise 7: where nothing flows, the voltages of Zero and Minus are +0, as these are +0 less a product.
func TestVoltagesOfZeros(t *testing.T) {
	parents := []int64{-1, 0}
	for _, source := range zeroSources() {
		for _, own := range []complex64{1, -1, complex(0, 1)} {
			f := impl.Feeder{Source: source, Buses: []impl.Bus{{Parent: -1}, {Parent: 0, Own: own}}}
			for _, kind := range faultKinds() {
				for _, through := range []complex64{0, 3, complex(0, 5)} {
					checkVoltagesOf(t, f, parents, place{1, kind, through})
				}
			}
		}
	}
}

// Promise 7: finite parts of a current can have voltages that are not finite, which does not fail.
func TestVoltagesThatAreNotFinite(t *testing.T) {
	great := complex(greatestNumber, 0)
	f := impl.Feeder{Source: impl.EvenPhases(3), Buses: []impl.Bus{{Parent: -1}, {Parent: 0, Own: great, Shared: great}}}
	fault := place{1, impl.FaultThree, 1}
	expectNear(t, "FaultCurrents without Plus impedance", fault.currents(t, f), impl.EvenPhases(3), 1e-6, 3)
	none := complex(notANumber, notANumber)
	voltages := fault.voltages(t, f, 1)
	expectComplex(t, "an infinite impedance of Zero", impl.PartsOf(voltages).Zero, none)
	expectPhases(t, "the root", fault.voltages(t, f, 0), impl.PhasesOf(impl.Parts{Plus: impl.PartsOf(f.Source).Plus}))
	f = impl.Feeder{Source: impl.EvenPhases(great / 8), Buses: []impl.Bus{{Parent: -1}, {Parent: 0, Own: 0.0625}}}
	fault = place{1, impl.FaultGround, 0}
	expectComplex(t, "the sum of finite parts", fault.currents(t, f).A, complex(positiveInfinity, imag(fault.currents(t, f).A)))
	expectNumber(t, "FaultTable of infinite phases", faultTable(t, f, impl.FaultGround, 0)[1], positiveInfinity)
}
