package tests

import (
	"fmt"
	"math"
	"slices"
	"strings"
	"testing"

	"loop.example/g01212/impl"
)

// oneNumber tells what the functions of one number return.
func oneNumber(x float32) string {
	tenths, isPower := impl.TenthsOf(x)
	parts := []float32{impl.FlushNumber(x), impl.SineTurns(x), impl.RootNumber(x)}
	return fmt.Sprint(digitsOf(parts[0]), digitsOf(parts[1]), digitsOf(parts[2]), impl.BitsOf(x),
		impl.IsFinite(x), impl.IsSubnormal(x), tenths, isPower)
}

// oneComplex tells what the functions of one complex number return.
func oneComplex(x complex64) string {
	parts := []float32{impl.PowerOf(x), impl.LongOf(x), impl.AngleOf(x), impl.AngleTurns(imag(x), real(x))}
	return fmt.Sprint(digitsOf(parts[0]), digitsOf(parts[1]), digitsOf(parts[2]), digitsOf(parts[3]),
		partsOf(impl.ConjugateOf(x)), impl.IsFiniteComplex(x))
}

// twoComplex tells what the functions of two complex numbers return.
func twoComplex(x, y complex64) string {
	return fmt.Sprint(partsOf(impl.MulComplex(x, y)), partsOf(impl.QuotientOf(x, y)),
		partsOf(impl.ScaleComplex(x, real(y))), impl.SameComplex(x, y))
}

// oneWide tells what the functions of one 64-bit number return.
func oneWide(x float64) string {
	return fmt.Sprint(digitsOf(impl.NarrowNumber(x)), partsOf(impl.NarrowComplex(complex(x, -x))), partsOf(impl.PhasorOf(x)))
}

// oneText tells what the functions of one text return.
func oneText(s string) string {
	numbers, isNumbers := impl.ReadNumbers(s)
	pairs, isPairs := impl.ReadComplex(s)
	n, isDecimal := impl.ReadDecimal(s)
	list, isList := impl.ReadList(s)
	check, isCheck := impl.CheckOf(7, s)
	return fmt.Sprint(numbers, isNumbers, pairs, isPairs, n, isDecimal, list, isList, check, isCheck, impl.IsName(s))
}

// oneInteger tells what the functions of one integer return.
func oneInteger(n int64) string {
	x, isBits := impl.FromBits(n)
	check, isCheck := impl.CheckOf(n, "text")
	text, isText := impl.ListText([]int64{n})
	return fmt.Sprint(digitsOf(x), isBits, check, isCheck, text, isText, impl.Decimal(n))
}

// expectTwice calls a function twice and reports results that differ.
func expectTwice[T any](t *testing.T, what string, argument T, call func(T) string) {
	t.Helper()
	expect(t, what, call(argument), call(argument))
}

// Promise 1: the functions of numbers return for all arguments, equal results for equal ones.
func TestNumbersReturn(t *testing.T) {
	for _, a := range oddNumbers() {
		expectTwice(t, "one number", a, oneNumber)
		for _, b := range oddNumbers() {
			x := complex(a, b)
			expectTwice(t, "one complex number", x, oneComplex)
			for _, c := range oddNumbers() {
				for _, d := range oddNumbers() {
					expectTwice(t, "two complex numbers", complex(c, d), func(y complex64) string { return twoComplex(x, y) })
				}
			}
		}
	}
	for bits := uint64(0); bits < 1<<32; bits += 2097143 {
		expectTwice(t, "one number", math.Float32frombits(uint32(bits)), oneNumber)
	}
	for i := range uint64(4096) {
		expectTwice(t, "one 64-bit number", math.Float64frombits(1+i*0x000fff0123456789), oneWide)
	}
}

// Promise 1: the functions of texts and integers return for all arguments.
func TestTextsReturn(t *testing.T) {
	texts := append(nearDecimals(), "none", "3f800000", "3f80000000000000", "7", "1,2", "a", strings.Repeat("\x00", 100000),
		strings.Repeat(",", 100000), strings.Repeat("9", 100000), strings.Repeat("3f800000,", 20000), strings.Repeat("\xff", 8))
	for _, text := range texts {
		expectTwice(t, "one text", text, oneText)
	}
	for _, n := range []int64{0, 1, -1, 64, 65002, 65003, 4294967295, 4294967296, math.MaxInt64, math.MinInt64} {
		expectTwice(t, "one integer", n, oneInteger)
	}
}

// guarded returns a list within a longer one, whose items behind it must stay.
func guarded[T any](list []T, mark T) (whole, part []T) {
	whole = append(slices.Clone(list), mark, mark, mark)
	return whole, whole[:len(list)]
}

// Promise 1: functions of lists change neither the lists nor what is behind them.
func TestListsStay(t *testing.T) {
	wholeNumbers, numbers := guarded([]float32{3, negativeZero, leastSubnormal, 0.1}, 77)
	wholePairs, pairs := guarded([]complex64{3, complex(0, negativeZero), complex(0.1, -7)}, 77)
	wholeValues, values := guarded([]int64{5, -3, 0, 9}, 77)
	numbersBefore, pairsBefore, valuesBefore := slices.Clone(wholeNumbers), slices.Clone(wholePairs), slices.Clone(wholeValues)

	first := tellLists(numbers, pairs, values)
	expect(t, "lists again", tellLists(numbers, pairs, values), first)
	expect(t, "copies of the lists", tellLists(slices.Clone(numbers), slices.Clone(pairs), slices.Clone(values)), first)

	sameNumber := func(a, b float32) bool { return digitsOf(a) == digitsOf(b) }
	samePair := func(a, b complex64) bool { return partsOf(a) == partsOf(b) }
	if !slices.EqualFunc(wholeNumbers, numbersBefore, sameNumber) {
		t.Errorf("numbers were changed: %v", wholeNumbers)
	}
	if !slices.EqualFunc(wholePairs, pairsBefore, samePair) {
		t.Errorf("complex numbers were changed: %v", wholePairs)
	}
	if !slices.Equal(wholeValues, valuesBefore) {
		t.Errorf("integers were changed: %v", wholeValues)
	}
}

// tellLists tells what the functions of lists return.
func tellLists(numbers []float32, pairs []complex64, values []int64) string {
	sum, _ := impl.SumNumbers(numbers)
	dot, _ := impl.DotNumbers(numbers, numbers)
	numbersText, _ := impl.NumbersText(numbers)
	pairSum, _ := impl.SumComplex(pairs)
	pairDot, _ := impl.DotComplex(pairs, pairs)
	turned, _ := impl.DotConjugate(pairs, pairs)
	powers, _ := impl.PowersOf(pairs)
	pairsText, _ := impl.ComplexText(pairs)
	valuesText, _ := impl.ListText(values)
	return fmt.Sprint(digitsOf(sum), digitsOf(dot), numbersText, partsOf(pairSum), partsOf(pairDot), partsOf(turned),
		digitsOf(powers), pairsText, valuesText)
}

// Promise 1: lists that are read are new each time.
func TestListsAreNew(t *testing.T) {
	numbers, _ := impl.ReadNumbers("3f800000,c0000000")
	pairs, _ := impl.ReadComplex("3f80000000000000,00000000c0000000")
	values, _ := impl.ReadList("4,5")
	if len(numbers) != 2 || len(pairs) != 2 || len(values) != 2 {
		t.Fatalf("lists are not read: %v, %v, %v", numbers, pairs, values)
	}
	numbers[0], pairs[0], values[0] = 9, 9, 9
	numbers, _ = impl.ReadNumbers("3f800000,c0000000")
	pairs, _ = impl.ReadComplex("3f80000000000000,00000000c0000000")
	values, _ = impl.ReadList("4,5")
	if numbers[0] != 1 || pairs[0] != 1 || values[0] != 4 {
		t.Errorf("lists are shared: %v, %v, %v", numbers, pairs, values)
	}
}

// The limits are those of the document.
func TestLimits(t *testing.T) {
	limits := []int64{impl.MaxNumbers, impl.MaxValue, impl.MaxItems, impl.CheckSize}
	if !slices.Equal(limits, []int64{256, 1000000000000000, 64, 65003}) {
		t.Errorf("limits: got %v", limits)
	}
}
