package tests

import (
	"fmt"
	"math"
	"testing"

	"loop.example/g01212/impl"
)

// smallPhases are phases of small integers.
func smallPhases() []impl.Phases {
	var list []impl.Phases
	for n := range 5 * 5 * 5 * 5 {
		a, b, c, d := float32(n%5-2), float32(n/5%5-2), float32(n/25%5-2), float32(n/125-2)
		list = append(list, impl.Phases{A: complex(a, d), B: complex(b, c), C: complex(c-b, a+d)})
	}
	return list
}

// expectNear reports phases that are farther from others than a share of a number.
func expectNear(t *testing.T, what string, got, want impl.Phases, share, of float32) {
	t.Helper()
	if far := impl.GreatestOf(impl.LessPhases(got, want)); !(far <= share*of) {
		t.Errorf("%s: got %v, want %v, which are %v apart", what, got, want, far)
	}
}

// Promise 7: parts lead back to their phases, and phases to their parts, nearly.
func TestPartsLeadBack(t *testing.T) {
	for _, scale := range []float32{1, 0.1, 1e-30, 1e30} {
		for _, p := range smallPhases() {
			p = impl.ScalePhases(p, scale)
			great := impl.GreatestOf(p)
			expectNear(t, "PhasesOf PartsOf", impl.PhasesOf(impl.PartsOf(p)), p, 4e-7, great)
			parts := impl.PartsOf(impl.PhasesOf(componentsFrom(p)))
			back := impl.Phases{A: parts.Zero, B: parts.Plus, C: parts.Minus}
			expectNear(t, "PartsOf PhasesOf", back, p, 4e-7, great)
		}
	}
}

// Promise 7: phases that are the same are Zero alone, those that go around forward
// Plus alone, and those that go around backward Minus alone.
func TestPartsAlone(t *testing.T) {
	for _, x := range []complex64{1, 240, complex(3, -4), complex(0, 1e-20), complex(-1e20, 1)} {
		even, long := impl.EvenPhases(x), impl.LongOf(x)
		back := impl.Phases{A: even.A, B: even.C, C: even.B}
		cases := []struct{ phases, parts impl.Phases }{
			{sameThree(x), impl.Phases{A: x}}, {even, impl.Phases{B: x}}, {back, impl.Phases{C: x}},
		}
		for _, c := range cases {
			parts := impl.PartsOf(c.phases)
			expectNear(t, "PartsOf", impl.Phases{A: parts.Zero, B: parts.Plus, C: parts.Minus}, c.parts, 3e-7, long)
			expectNear(t, "PhasesOf", impl.PhasesOf(componentsFrom(c.parts)), c.phases, 3e-7, long)
		}
		if share := impl.MinusShareOf(even); share > 3e-7 {
			t.Errorf("MinusShareOf even phases: got %v", share)
		}
		if share := impl.MinusShareOf(back); share < 3e6 {
			t.Errorf("MinusShareOf phases that go backward: got %v", share)
		}
		expectPhases(t, "PhasesOf Zero", impl.PhasesOf(impl.Parts{Zero: x}), sameThree(x))
	}
}

// Promise 7: one phase alone has three parts that are a third of it, and the document's example is exact.
func TestPartsOfOnePhase(t *testing.T) {
	expectComponents(t, "PartsOf 3, 0, 0", impl.PartsOf(impl.Phases{A: 3}), true, impl.Parts{Zero: 1, Plus: 1, Minus: 1})
	expectComponents(t, "PartsOf -6 i, 0, 0", impl.PartsOf(impl.Phases{A: complex(0, -6)}), true, impl.Parts{Zero: complex(0, -2), Plus: complex(0, -2), Minus: complex(0, -2)})
	for _, x := range []complex64{3, complex(-6, 9), complex(0.1, -0.7)} {
		want := impl.ScaleComplex(x, 1.0/3)
		for at := range 3 {
			parts := impl.PartsOf(placed(x, at, 0))
			expectComplex(t, "Zero of one phase", parts.Zero, want)
			for _, part := range []complex64{parts.Plus, parts.Minus} {
				if long := impl.LongOf(part) / impl.LongOf(want); !(math.Abs(float64(long-1)) < 3e-7) {
					t.Errorf("PartsOf one phase: got %v of %v", part, x)
				}
			}
		}
		expectNumber(t, "MinusShareOf A alone", impl.MinusShareOf(impl.Phases{A: x}), 1)
	}
}

// Promise 7: phases that go around have parts that turn, Zero not at all, Plus forward and Minus backward.
func TestPartsGoAround(t *testing.T) {
	forth, back := impl.PhasorOf(1.0/3), impl.PhasorOf(-1.0/3)
	for _, p := range smallPhases() {
		parts, next := impl.PartsOf(p), impl.PartsOf(impl.NextPhases(p))
		want := impl.Phases{A: parts.Zero, B: impl.MulComplex(forth, parts.Plus), C: impl.MulComplex(back, parts.Minus)}
		expectNear(t, "PartsOf NextPhases", impl.Phases{A: next.Zero, B: next.Plus, C: next.Minus}, want, 4e-7, impl.GreatestOf(p))
	}
}

// Promise 1: parts are the same if the bits of all of them are, and all not-a-numbers are one.
func TestSameParts(t *testing.T) {
	for i, p := range oddPhases() {
		for j, q := range oddPhases() {
			got := impl.SameParts(componentsFrom(p), componentsFrom(q))
			if got != (phasesText(p) == phasesText(q)) || i == j && !got {
				t.Errorf("SameParts %s, %s: got %v", phasesText(p), phasesText(q), got)
			}
		}
	}
	for at := range 3 {
		for _, x := range oddNumbers() {
			for _, y := range oddNumbers() {
				want := digitsOf(x) == digitsOf(y)
				across := impl.SameParts(componentsFrom(placed(complex(x, 1), at, 5)), componentsFrom(placed(complex(y, 1), at, 5)))
				upright := impl.SameParts(componentsFrom(placed(complex(1, x), at, 5)), componentsFrom(placed(complex(1, y), at, 5)))
				if across != want || upright != want {
					t.Errorf("SameParts with %v and %v at %d: got %v, %v, want %v", x, y, at, across, upright, want)
				}
			}
		}
	}
}

// Promise 7: the share of Minus is a quotient, also by zero.
func TestMinusShareAtTheEdges(t *testing.T) {
	zero, infinite, none := complex(negativeZero, negativeZero), complex(negativeInfinity, 1), complex(1, notANumber)
	expectNumber(t, "MinusShareOf zeros", impl.MinusShareOf(impl.Phases{}), notANumber)
	expectNumber(t, "MinusShareOf zeros with signs", impl.MinusShareOf(sameThree(zero)), notANumber)
	for at := range 3 {
		expectNumber(t, "MinusShareOf an infinity", impl.MinusShareOf(placed(infinite, at, 2)), notANumber)
		expectNumber(t, "MinusShareOf a not-a-number", impl.MinusShareOf(placed(none, at, 2)), notANumber)
		expectNumber(t, "MinusShareOf the least number", impl.MinusShareOf(placed(complex(0, leastSubnormal), at, 0)), notANumber)
	}
	for _, p := range oddPhases() {
		parts := impl.PartsOf(p)
		expectNumber(t, "MinusShareOf "+phasesText(p), impl.MinusShareOf(p), impl.LongOf(parts.Minus)/impl.LongOf(parts.Plus))
	}
}

// Promise 7: the current to the ground is the sum of all three, from left to right.
func TestGroundCurrentOf(t *testing.T) {
	great := complex(greatestNumber, -greatestNumber)
	cases := []struct {
		p    impl.Phases
		want complex64
	}{
		{impl.Phases{A: 1, B: 2, C: 3}, 6}, {impl.Phases{A: complex(1, -2), B: complex(0, 5), C: complex(-1, -3)}, 0},
		{impl.Phases{}, 0}, {sameThree(complex(negativeZero, negativeZero)), complex(negativeZero, negativeZero)},
		{impl.Phases{A: greatOdd, B: 1, C: 1}, greatOdd}, {impl.Phases{A: 1, B: 1, C: greatOdd}, greatOdd + 2},
		{impl.Phases{A: great, B: great, C: -great}, complex(positiveInfinity, negativeInfinity)}, {impl.Phases{A: great, B: -great, C: great}, great},
		{impl.Phases{A: complex(positiveInfinity, 0), B: complex(negativeInfinity, 1)}, complex(notANumber, 1)},
	}
	for _, c := range cases {
		expectComplex(t, "GroundCurrentOf "+phasesText(c.p), impl.GroundCurrentOf(c.p), c.want)
	}
}

// Promise 7: small integers have exact impedances for parts, and sums are made from left to right.
func TestSequenceOf(t *testing.T) {
	cases := []struct{ own, shared, zero, plus complex64 }{
		{3, 1, 5, 2}, {complex(1, 2), complex(-3, 4), complex(-5, 10), complex(4, -2)}, {0, 0, 0, 0},
		{greatOdd, 1, greatOdd, greatOdd - 1}, {1, greatOdd, 2 * greatOdd, 1 - greatOdd},
		{complex(negativeZero, 0), complex(negativeZero, negativeZero), complex(negativeZero, 0), 0},
		{complex(greatestNumber, 1), complex(greatestNumber, 1), complex(positiveInfinity, 3), 0},
		{complex(positiveInfinity, 1), complex(positiveInfinity, notANumber), complex(positiveInfinity, notANumber), complex(notANumber, notANumber)},
	}
	for _, c := range cases {
		zero, plus := impl.SequenceOf(c.own, c.shared)
		expectComplex(t, fmt.Sprint("SequenceOf ", c.own, c.shared), zero, c.zero)
		expectComplex(t, fmt.Sprint("SequenceOf ", c.own, c.shared), plus, c.plus)
	}
}
