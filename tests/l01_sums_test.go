package tests

import (
	"testing"

	"loop.example/g01212/impl"
)

const greatOdd = 16777216 // 2 to the power of 24, to which 1 cannot be added

// Promise 2: sums begin with +0, go from left to right, and round each time.
func TestSumNumbers(t *testing.T) {
	tests := []struct {
		list []float32
		want float32
	}{
		{nil, 0},
		{[]float32{}, 0},
		{[]float32{negativeZero}, 0},
		{[]float32{negativeZero, negativeZero}, 0},
		{[]float32{1, 2, 3.5}, 6.5},
		{[]float32{greatOdd, 1, 1}, greatOdd},
		{[]float32{1, 1, greatOdd}, greatOdd + 2},
		{[]float32{greatOdd, 1, -greatOdd}, 0},
		{[]float32{greatOdd, -greatOdd, 1}, 1},
		{[]float32{greatestNumber, greatestNumber, -greatestNumber}, positiveInfinity},
		{[]float32{positiveInfinity, negativeInfinity}, notANumber},
		{[]float32{1, notANumber, 2}, notANumber},
		{[]float32{leastSubnormal, leastSubnormal}, 2 * leastSubnormal},
		{[]float32{1, -1}, 0},
	}
	for _, test := range tests {
		got, ok := impl.SumNumbers(test.list)
		if !ok {
			t.Errorf("SumNumbers %v: fails", test.list)
		}
		expectNumber(t, "SumNumbers", got, test.want)
		checkSumComplex(t, test.list, test.want)
	}
}

// checkSumComplex takes the numbers of list as real parts, and then as imaginary ones.
func checkSumComplex(t *testing.T, list []float32, want float32) {
	t.Helper()
	var across, upright []complex64
	for _, x := range list {
		across = append(across, complex(x, 1))
		upright = append(upright, complex(negativeZero, x))
	}
	got, ok := impl.SumComplex(across)
	if !ok {
		t.Errorf("SumComplex %v: fails", across)
	}
	expectComplex(t, "SumComplex", got, complex(want, float32(len(list))))
	got, ok = impl.SumComplex(upright)
	if !ok {
		t.Errorf("SumComplex %v: fails", upright)
	}
	expectComplex(t, "SumComplex", got, complex(0, want))
}

// Promise 2: each product is rounded on its own before it is added.
func TestDotNumbers(t *testing.T) {
	above, square := numberOf(t, "3f800001"), numberOf(t, "3f800002")
	tests := []struct {
		a, b []float32
		want float32
	}{
		{nil, nil, 0},
		{[]float32{}, nil, 0},
		{[]float32{1, 2}, []float32{3, 4}, 11},
		{[]float32{negativeZero}, []float32{1}, 0},
		{[]float32{-1, above}, []float32{square, above}, 0},
		{[]float32{above, -1}, []float32{above, square}, 0},
		{[]float32{greatOdd, 1, 1}, []float32{1, 1, 1}, greatOdd},
		{[]float32{greatestNumber, -1}, []float32{2, 1}, positiveInfinity},
		{[]float32{leastSubnormal, leastSubnormal}, []float32{0.5, 0.5}, 0},
		{[]float32{0}, []float32{positiveInfinity}, notANumber},
	}
	for _, test := range tests {
		got, ok := impl.DotNumbers(test.a, test.b)
		if !ok {
			t.Errorf("DotNumbers %v, %v: fails", test.a, test.b)
		}
		expectNumber(t, "DotNumbers", got, test.want)
	}
}

// Promise 2: products are narrowed before they are added, and only the numbers
// of the first list become conjugates.
func TestDotComplex(t *testing.T) {
	above, square := numberOf(t, "3f800001"), numberOf(t, "3f800002")
	tests := []struct {
		a, b            []complex64
		plain, turnedBy complex64
	}{
		{nil, nil, 0, 0},
		{[]complex64{complex(1, 2)}, []complex64{complex(3, 4)}, complex(-5, 10), complex(11, -2)},
		{[]complex64{complex(0, 1), 2}, []complex64{complex(0, 1), complex(1, 5)}, complex(1, 10), complex(3, 10)},
		{[]complex64{complex(above, 0), -1}, []complex64{complex(above, 0), complex(square, 0)}, 0, 0},
		{[]complex64{-1, complex(above, 0)}, []complex64{complex(square, 0), complex(above, 0)}, 0, 0},
		{[]complex64{complex(0, greatOdd), complex(0, 1), complex(0, 1)}, []complex64{1, 1, 1}, complex(0, greatOdd), complex(0, -greatOdd)},
		{[]complex64{complex(negativeZero, negativeZero)}, []complex64{1}, 0, 0},
	}
	for _, test := range tests {
		got, ok := impl.DotComplex(test.a, test.b)
		turned, isTurned := impl.DotConjugate(test.a, test.b)
		if !ok || !isTurned {
			t.Errorf("DotComplex or DotConjugate %v, %v: fails", test.a, test.b)
		}
		expectComplex(t, "DotComplex", got, test.plain)
		expectComplex(t, "DotConjugate", turned, test.turnedBy)
	}
}

// Promise 2: powers are added as 64-bit numbers and narrowed once.
func TestPowersOf(t *testing.T) {
	tests := []struct {
		list []complex64
		want float32
	}{
		{nil, 0},
		{[]complex64{complex(negativeZero, negativeZero)}, 0},
		{[]complex64{complex(3, 4), 1}, 26},
		{[]complex64{4096, 1, complex(0, 1)}, greatOdd + 2},
		{[]complex64{complex(0, 4096), 1, 1, 1}, greatOdd + 4},
		{[]complex64{1e30}, positiveInfinity},
		{[]complex64{1e-30, 1e-30}, 0},
		{[]complex64{complex(notANumber, 1)}, notANumber},
		{[]complex64{complex(1, negativeInfinity)}, positiveInfinity},
		{[]complex64{complex(3e-23, 0), complex(0, 3e-23), complex(3e-23, 0)}, 2 * leastSubnormal},
	}
	for _, test := range tests {
		got, ok := impl.PowersOf(test.list)
		if !ok {
			t.Errorf("PowersOf %v: fails", test.list)
		}
		expectNumber(t, "PowersOf", got, test.want)
	}
}

// repeated returns a list of count equal items.
func repeated[T any](item T, count int) []T {
	list := make([]T, count)
	for i := range list {
		list[i] = item
	}
	return list
}

// Promise 2: lists at their limit, which the document names, are added up.
func TestSumsAtTheLimit(t *testing.T) {
	numbers, pairs := repeated(float32(1), 256), repeated(complex64(complex(1, 2)), 256)
	sum, ok := impl.SumNumbers(numbers)
	if !ok || sum != 256 {
		t.Errorf("SumNumbers: %v, %v", sum, ok)
	}
	sum, ok = impl.DotNumbers(numbers, numbers)
	if !ok || sum != 256 {
		t.Errorf("DotNumbers: %v, %v", sum, ok)
	}
	pair, ok := impl.SumComplex(pairs)
	if !ok || pair != complex(256, 512) {
		t.Errorf("SumComplex: %v, %v", pair, ok)
	}
	pair, ok = impl.DotComplex(pairs, pairs)
	if !ok || pair != complex(-768, 1024) {
		t.Errorf("DotComplex: %v, %v", pair, ok)
	}
	pair, ok = impl.DotConjugate(pairs, pairs)
	if !ok || pair != 1280 {
		t.Errorf("DotConjugate: %v, %v", pair, ok)
	}
	sum, ok = impl.PowersOf(pairs)
	if !ok || sum != 1280 {
		t.Errorf("PowersOf: %v, %v", sum, ok)
	}
}

// Promise 1: lists beyond the limit, and lists of different lengths, make sums fail with zero values.
func TestSumsFail(t *testing.T) {
	numbers, pairs := repeated(float32(1), 257), repeated(complex64(1), 257)
	sum, ok := impl.SumNumbers(numbers)
	expectFailure(t, "SumNumbers", digitsOf(sum) == "00000000", ok)
	pair, ok := impl.SumComplex(pairs)
	expectFailure(t, "SumComplex", partsOf(pair) == "00000000 00000000", ok)
	sum, ok = impl.PowersOf(pairs)
	expectFailure(t, "PowersOf", digitsOf(sum) == "00000000", ok)
	for _, count := range [][2]int{{257, 257}, {257, 256}, {256, 257}, {1, 0}, {0, 1}, {2, 3}, {3, 2}} {
		sum, ok = impl.DotNumbers(numbers[:count[0]], numbers[:count[1]])
		expectFailure(t, "DotNumbers", digitsOf(sum) == "00000000", ok)
		pair, ok = impl.DotComplex(pairs[:count[0]], pairs[:count[1]])
		expectFailure(t, "DotComplex", partsOf(pair) == "00000000 00000000", ok)
		pair, ok = impl.DotConjugate(pairs[:count[0]], pairs[:count[1]])
		expectFailure(t, "DotConjugate", partsOf(pair) == "00000000 00000000", ok)
	}
}
