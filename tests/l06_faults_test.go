package tests

import (
	"fmt"
	"math"
	"math/cmplx"
	"testing"

	"loop.example/g01212/impl"
)

// widePhases are phases of 128-bit complex numbers.
type widePhases [3]complex128

// wideOf returns the phases of parts.
func wideOf(zero, plus, minus complex128) widePhases {
	forth := complex(-0.5, math.Sqrt(0.75))
	back := cmplx.Conj(forth)
	return widePhases{zero + plus + minus, zero + back*plus + forth*minus, zero + forth*plus + back*minus}
}

// wideCircuit returns the currents of a fault, and the voltages there that the
// impedances up to it leave.
func wideCircuit(x arguments, parts impl.Parts) (currents, voltages widePhases) {
	zero, plus, minus := complex128(parts.Zero), complex128(parts.Plus), complex128(parts.Minus)
	left := complex128(x.source) - complex128(x.plus)*plus
	return wideOf(zero, plus, minus), wideOf(-complex128(x.zero)*zero, left, -complex128(x.plus)*minus)
}

// lawsOf returns currents that are to be zero, and voltages that are, for a kind of fault.
func lawsOf(kind int64, i, v widePhases, through complex128) (currents, voltages []complex128) {
	switch kind {
	case impl.FaultThree:
		return nil, []complex128{v[0] - through*i[0], v[1] - through*i[1], v[2] - through*i[2]}
	case impl.FaultGround:
		return []complex128{i[1], i[2]}, []complex128{v[0] - through*i[0]}
	case impl.FaultPair:
		return []complex128{i[0], i[1] + i[2]}, []complex128{v[1] - v[2] - through*i[1]}
	}
	return []complex128{i[0]}, []complex128{v[1] - through*(i[1]+i[2]), v[2] - through*(i[1]+i[2])}
}

// checkLaws reports parts of a fault that are not what its circuit tells, nearly.
func checkLaws(t *testing.T, x arguments, parts impl.Parts) {
	t.Helper()
	i, v := wideCircuit(x, parts)
	through := complex128(x.through)
	great := cmplx.Abs(complex128(parts.Zero)) + cmplx.Abs(complex128(parts.Plus)) + cmplx.Abs(complex128(parts.Minus))
	behind := cmplx.Abs(complex128(x.zero)) + 2*cmplx.Abs(complex128(x.plus)) + 3*cmplx.Abs(through)
	currents, voltages := lawsOf(x.kind, i, v, through)
	for _, current := range currents {
		if !(cmplx.Abs(current) <= 1e-6*great) {
			t.Errorf("%s: got the current %v of %v", faultText(x), current, i)
		}
	}
	for _, voltage := range voltages {
		if !(cmplx.Abs(voltage) <= 1e-6*(cmplx.Abs(complex128(x.source))+behind*great)) {
			t.Errorf("%s: got the voltage %v of %v", faultText(x), voltage, v)
		}
	}
}

// someImpedances are impedances, some of them without a real or an imaginary part.
func someImpedances() []complex64 {
	return []complex64{0, 1, complex(0, 1), complex(0.3, 0.4), complex(2, -1.7), complex(-1, -0.1), complex(1e-9, 3), complex(700, 1e4)}
}

// Promise 7: a fault whose parts are finite draws what its circuit tells, nearly.
func TestFaultsInCircuits(t *testing.T) {
	finite := 0
	for _, kind := range faultKinds() {
		for _, source := range []complex64{240, complex(-3, 4), complex(0, 1e-9), complex(1e9, 1)} {
			for _, zero := range someImpedances() {
				for _, plus := range someImpedances() {
					for _, through := range someImpedances() {
						x := arguments{source, zero, plus, kind, through}
						if parts, ok := impl.FaultParts(source, zero, plus, kind, through); ok {
							checkLaws(t, x, parts)
							finite++
						}
					}
				}
			}
		}
	}
	if all := 4 * 4 * 8 * 8 * 8; finite < all*9/10 {
		t.Errorf("FaultParts: %d of %d are finite", finite, all)
	}
}

// Promise 7: faults in circuits of small integers are exact.
func TestSmallFaults(t *testing.T) {
	cases := []struct {
		x    arguments
		want impl.Parts
	}{
		{arguments{2, 1, 1, impl.FaultThree, 0}, impl.Parts{Plus: 2}},
		{arguments{12, 99, 1, impl.FaultThree, 2}, impl.Parts{Plus: 4}},
		{arguments{complex(6, 8), 0, complex(1, 1), impl.FaultThree, complex(2, 3)}, impl.Parts{Plus: 2}},
		{arguments{8, 2, 1, impl.FaultGround, 0}, impl.Parts{Zero: 2, Plus: 2, Minus: 2}},
		{arguments{20, 3, 1, impl.FaultGround, 5}, impl.Parts{Zero: 1, Plus: 1, Minus: 1}},
		{arguments{10, complex(0, 1), complex(0, 2), impl.FaultGround, 0}, impl.Parts{Zero: complex(0, -2), Plus: complex(0, -2), Minus: complex(0, -2)}},
		{arguments{8, 2, 1, impl.FaultPair, 2}, impl.Parts{Plus: 2, Minus: -2}},
		{arguments{12, 99, 2, impl.FaultPair, 0}, impl.Parts{Plus: 3, Minus: -3}},
		{arguments{6, 0, 1, impl.FaultPair, complex(-2, 2)}, impl.Parts{Plus: complex(0, -3), Minus: complex(0, 3)}},
		{arguments{3, 1, 1, impl.FaultBoth, 0}, impl.Parts{Zero: -1, Plus: 2, Minus: -1}},
		{arguments{28, 0, 4, impl.FaultBoth, 4}, impl.Parts{Zero: -1, Plus: 4, Minus: -3}},
		{arguments{12, 1, 2, impl.FaultBoth, complex(1.0/3, 0)}, impl.Parts{Zero: -2, Plus: 4, Minus: -2}},
		{arguments{10, 0, complex(0, 4), impl.FaultBoth, 0}, impl.Parts{Zero: complex(0, 2.5), Plus: complex(0, -2.5)}},
	}
	for _, c := range cases {
		expectComponents(t, faultText(c.x), c.x.parts(t), true, c.want)
	}
}

// Promise 7: parts without current are +0, also where others have zeros with signs.
func TestFaultsWithZeros(t *testing.T) {
	zero := complex(negativeZero, negativeZero)
	for _, source := range []complex64{0, zero, complex(negativeZero, 0), complex(0, negativeZero)} {
		for _, plus := range []complex64{1, complex(0, 1), -1, complex(-1, -2)} {
			three := arguments{source, zero, plus, impl.FaultThree, zero}.parts(t)
			expectComponents(t, "FaultThree of zero", impl.Parts{Zero: three.Zero, Minus: three.Minus}, true, impl.Parts{})
			ground := arguments{source, 1, plus, impl.FaultGround, 0.5}.parts(t)
			expectComponents(t, "FaultGround of zero", ground, true, impl.Parts{Zero: ground.Plus, Plus: ground.Plus, Minus: ground.Plus})
			pair := arguments{source, zero, plus, impl.FaultPair, zero}.parts(t)
			expectComponents(t, "FaultPair of zero", impl.Parts{Zero: pair.Zero, Minus: pair.Minus}, true, impl.Parts{})
			both := arguments{source, 1, plus, impl.FaultBoth, 0.5}.parts(t)
			expectComponents(t, "FaultBoth of zero", impl.Parts{Zero: both.Zero, Minus: both.Minus}, true, impl.Parts{})
		}
	}
	pair := arguments{complex(4, 0), 1, 1, impl.FaultPair, 0}.parts(t)
	expectComponents(t, "FaultPair without an imaginary part", pair, true, impl.Parts{Plus: 2, Minus: -2})
}

// Promise 7: faults whose quotients are by zero fail, as those without any impedance do.
func TestFaultsByZeroFail(t *testing.T) {
	for _, source := range []complex64{0, 1, complex(240, -3), complex(negativeZero, 0), complex(0, leastSubnormal), greatOdd} {
		for _, kind := range faultKinds() {
			expectNoFault(t, arguments{source, 0, 0, kind, 0})
			expectNoFault(t, arguments{source, complex(negativeZero, negativeZero), complex(0, negativeZero), kind, complex(negativeZero, 0)})
		}
		z := complex(float32(1.5), -2)
		expectNoFault(t, arguments{source, 5, z, impl.FaultThree, -z})
		expectNoFault(t, arguments{source, -z - z, z, impl.FaultGround, 0})
		expectNoFault(t, arguments{source, z, z, impl.FaultGround, -z})
		expectNoFault(t, arguments{source, 5, z, impl.FaultPair, -z - z})
		expectNoFault(t, arguments{source, -z, z, impl.FaultBoth, 0})
		expectNoFault(t, arguments{source, 2 * z, z, impl.FaultBoth, -z})
		expectNoFault(t, arguments{source, z, -2 * z, impl.FaultBoth, 0})
		expectNoFault(t, arguments{source, 0, 0, impl.FaultBoth, z})
		expectNoFault(t, arguments{source, z, 0, impl.FaultBoth, z})
	}
}

// Promise 7: the opposite of one impedance does no harm where others are added to it.
func TestOppositesThatDoNotFail(t *testing.T) {
	x := arguments{8, 0, 2, impl.FaultThree, -1}
	expectComponents(t, faultText(x), x.parts(t), true, impl.Parts{Plus: 8})
	x = arguments{8, 1, 2, impl.FaultGround, -1}
	expectComponents(t, faultText(x), x.parts(t), true, impl.Parts{Zero: 4, Plus: 4, Minus: 4})
	x = arguments{8, 0, 2, impl.FaultPair, -2}
	expectComponents(t, faultText(x), x.parts(t), true, impl.Parts{Plus: 4, Minus: -4})
	x = arguments{8, 3, 2, impl.FaultBoth, -1}
	expectComponents(t, faultText(x), x.parts(t), true, impl.Parts{Zero: -4, Plus: 4})
	for _, kind := range faultKinds() {
		x = arguments{12, 0, 0, kind, 2}
		if kind == impl.FaultBoth {
			expectNoFault(t, x)
			continue
		}
		plus := map[int64]complex64{impl.FaultThree: 6, impl.FaultGround: 2, impl.FaultPair: 6}[kind]
		expectComplex(t, "Plus at a root", x.parts(t).Plus, plus)
	}
}

// usesZero reports whether the impedance zero counts for a kind of faults.
func usesZero(kind int64) bool {
	return kind == impl.FaultGround || kind == impl.FaultBoth
}

// Promise 7: faults with infinities and not-a-numbers fail where these count.
func TestOddFaultsFail(t *testing.T) {
	for _, kind := range faultKinds() {
		for _, x := range []float32{notANumber, positiveInfinity, negativeInfinity} {
			for _, odd := range []complex64{complex(x, 1), complex(1, x), complex(x, x), complex(x, 0)} {
				expectNoFault(t, arguments{odd, 1, 1, kind, 1})
				expectNoFault(t, arguments{1, 1, odd, kind, 1})
				expectNoFault(t, arguments{1, 1, 1, kind, odd})
				if usesZero(kind) {
					expectNoFault(t, arguments{1, odd, 1, kind, 1})
					continue
				}
				with, without := arguments{9, odd, 2, kind, 1}, arguments{9, 0, 2, kind, 1}
				expectComponents(t, faultText(with), with.parts(t), true, without.parts(t))
			}
		}
	}
}

// Promise 7: the greatest numbers are finite parts, and any beyond them are none.
func TestFaultsAtTheGreatestNumbers(t *testing.T) {
	great := complex(greatestNumber, -greatestNumber)
	for _, kind := range []int64{impl.FaultThree, impl.FaultGround, impl.FaultPair} {
		whole := map[int64]arguments{
			impl.FaultThree: {great, 0, 0.5, kind, 0.5}, impl.FaultGround: {great, 0.5, 0.25, kind, 0}, impl.FaultPair: {great, 0, 0.25, kind, 0.5},
		}[kind]
		expectComplex(t, faultText(whole), whole.parts(t).Plus, great)
		whole.plus -= 0.125
		expectNoFault(t, whole)
	}
	for at, source := range []complex64{complex(greatestNumber, 1), complex(1, greatestNumber), complex(-greatestNumber, 1), complex(1, -greatestNumber)} {
		for _, kind := range faultKinds() {
			x := arguments{source, 0.0625, 0.0625, kind, 0}
			expectNoFault(t, x)
			x.source = impl.ScaleComplex(source, 0.03125)
			if parts := x.parts(t); impl.LongOf(parts.Plus) == 0 {
				t.Errorf("%s, %d: got %v", faultText(x), at, parts)
			}
		}
	}
	expectNoFault(t, arguments{1, 1, complex(leastSubnormal, 0), impl.FaultThree, 0})
}

// Promise 7: Zero alone, or Minus alone, can be what is not finite.
func TestEachPartMustBeFinite(t *testing.T) {
	cases := []struct {
		share float32
		x     arguments
	}{
		{0.24, arguments{0, -0.1, 0.4, impl.FaultBoth, 0}},
		{0.21, arguments{0, 0.4, -0.1, impl.FaultBoth, 0}},
		{0.24, arguments{0, complex(0, 0.2), complex(0, 0.4), impl.FaultBoth, complex(0, -0.1)}},
		{0.9, arguments{0, -1, 4, impl.FaultBoth, 0}}, // a product of which only the quotient would be finite
	}
	for _, c := range cases {
		for at, great := range []complex64{complex(greatestNumber, 0), complex(0, greatestNumber), complex(0, -greatestNumber)} {
			c.x.source = impl.ScaleComplex(great, c.share)
			expectNoFault(t, c.x)
			c.x.source = impl.ScaleComplex(c.x.source, 0.5)
			parts := c.x.parts(t)
			if sum := impl.GroundCurrentOf(impl.Phases{A: parts.Zero, B: parts.Plus, C: parts.Minus}); !(impl.LongOf(sum) < 1e-6*impl.LongOf(parts.Plus)) {
				t.Errorf("%s, %d: got %v", faultText(c.x), at, parts)
			}
		}
	}
}

// Promise 1: kinds that are none of the four make faults fail with zero values.
func TestWrongKindsFail(t *testing.T) {
	f := treeOf([]int64{-1, 0, 1})
	for _, kind := range wrongKinds() {
		expectNoFault(t, arguments{8, 1, 1, kind, 0})
		expectNoFault(t, arguments{8, 0, 1, kind, 1})
		for bus := range int64(3) {
			currents, ok := impl.FaultCurrents(f, bus, kind, 1)
			expectNoPhases(t, fmt.Sprint("FaultCurrents of the kind ", kind), currents, ok)
			voltages, ok := impl.FaultVoltages(f, bus, kind, 1, bus)
			expectNoPhases(t, fmt.Sprint("FaultVoltages of the kind ", kind), voltages, ok)
		}
		table, ok := impl.FaultTable(f, kind, 1)
		expectFailure(t, fmt.Sprint("FaultTable of the kind ", kind), len(table) == 0, ok)
		bus, least, ok := impl.WeakestFault(f, kind, 1)
		expectFailure(t, fmt.Sprint("WeakestFault of the kind ", kind), bus == 0 && digitsOf(least) == digitsOf(0), ok)
	}
}
