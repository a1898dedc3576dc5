package tests

import (
	"math"
	"slices"
	"strings"
	"testing"

	"loop.example/g01212/impl"
)

// Promise 2: numbers are told by their bits, one behind another.
func TestNumbersText(t *testing.T) {
	tests := []struct {
		list []float32
		want string
	}{
		{nil, "none"},
		{[]float32{}, "none"},
		{[]float32{1}, "3f800000"},
		{[]float32{1, -2}, "3f800000,c0000000"},
		{[]float32{0, negativeZero, leastSubnormal}, "00000000,80000000,00000001"},
		{[]float32{positiveInfinity, negativeInfinity, notANumber}, "7f800000,ff800000,7fc00000"},
		{[]float32{math.Float32frombits(0xffc12345)}, "7fc00000"},
		{[]float32{math.Float32frombits(0x00abcdef)}, "00abcdef"},
	}
	for _, test := range tests {
		got, ok := impl.NumbersText(test.list)
		if !ok {
			t.Errorf("NumbersText %v: fails", test.list)
		}
		expect(t, "NumbersText", got, test.want)
		list, ok := impl.ReadNumbers(test.want)
		again, _ := impl.NumbersText(list)
		if !ok || len(list) != len(test.list) || again != test.want {
			t.Errorf("ReadNumbers %s: got %v, %v", test.want, list, ok)
		}
	}
}

func TestComplexText(t *testing.T) {
	tests := []struct {
		list []complex64
		want string
	}{
		{nil, "none"},
		{[]complex64{}, "none"},
		{[]complex64{1}, "3f80000000000000"},
		{[]complex64{1, complex(0, -2)}, "3f80000000000000,00000000c0000000"},
		{[]complex64{complex(negativeZero, leastSubnormal)}, "8000000000000001"},
		{[]complex64{complex(notANumber, negativeInfinity), complex(-1, notANumber)}, "7fc00000ff800000,bf8000007fc00000"},
	}
	for _, test := range tests {
		got, ok := impl.ComplexText(test.list)
		if !ok {
			t.Errorf("ComplexText %v: fails", test.list)
		}
		expect(t, "ComplexText", got, test.want)
		list, ok := impl.ReadComplex(test.want)
		again, _ := impl.ComplexText(list)
		if !ok || len(list) != len(test.list) || again != test.want {
			t.Errorf("ReadComplex %s: got %v, %v", test.want, list, ok)
		}
	}
}

// Promise 1: texts that are nearly right make the readers fail with zero values.
func TestReadNumbersFails(t *testing.T) {
	texts := []string{
		"", ",", "3f800000,", ",3f800000", "3f800000,,3f800000", "3F800000", "3f80000A", "3f80000", "3f8000000",
		" 3f800000", "3f800000 ", "3f800000, 3f800000", "3f800000;3f800000", "3f800000\n", "none,", ",none", "None", "none ",
		"3f800000,none", "none,3f800000", "nonenone", "7fc00001", "ffc00000", "7f800001", "ffffffff", "3f80000g", "+3f80000",
		"-3f80000", "0x3f8000", "3f80_000", "3f8000003f800000", "00000000\x00", "é800000", "3f800000,3f80000",
	}
	for _, text := range texts {
		list, ok := impl.ReadNumbers(text)
		expectFailure(t, "ReadNumbers "+text, len(list) == 0, ok)
	}
}

func TestReadComplexFails(t *testing.T) {
	one := "3f80000000000000"
	texts := []string{
		"", ",", one + ",", "," + one, one + ",," + one, "3F80000000000000", "000000003F800000", "3f800000", one + "0", one[1:],
		" " + one, one + " ", one + ", " + one, one + "\n", "none,", ",none", "None", "none ", one + ",none", "none," + one, "nonenonenonenone",
		"7fc0000100000000", "000000007fc00001", "ffc0000000000000", "00000000ffc00000", "3f80000g00000000", "3f8000000000000g",
		"+3f8000000000000", "00000000+3f80000", "00000000-0000000", "3f800000,00000000", one + one, "3f80_00000000000", "0x3f800000000000",
	}
	for _, text := range texts {
		list, ok := impl.ReadComplex(text)
		expectFailure(t, "ReadComplex "+text, len(list) == 0, ok)
	}
}

// Promise 2: a name has 1 to 8 letters a to z.
func TestIsName(t *testing.T) {
	for _, name := range []string{"a", "z", "az", "ring", "abcdefgh", "zzzzzzzz", "none"} {
		if !impl.IsName(name) {
			t.Errorf("IsName %q: want true", name)
		}
	}
	for _, name := range []string{"", "abcdefghi", "A", "Ring", "rinG", "a1", "1", "a b", " a", "a ", "a\n", "`", "{", "a{", "é", "a\x00", "a-b", "\xff"} {
		if impl.IsName(name) {
			t.Errorf("IsName %q: want false", name)
		}
	}
}

// Promise 2: decimals lead to the number and back, up to the greatest value.
func TestDecimal(t *testing.T) {
	tests := []struct {
		n    int64
		want string
	}{
		{0, "0"}, {1, "1"}, {-1, "-1"}, {-4, "-4"}, {10, "10"}, {-100, "-100"}, {987654321, "987654321"},
		{1000000000000000, "1000000000000000"}, {-1000000000000000, "-1000000000000000"}, {999999999999999, "999999999999999"},
	}
	for _, test := range tests {
		expect(t, "Decimal", impl.Decimal(test.n), test.want)
		if n, ok := impl.ReadDecimal(test.want); !ok || n != test.n {
			t.Errorf("ReadDecimal %s: got %v, %v", test.want, n, ok)
		}
	}
	expect(t, "Decimal", impl.Decimal(1000000000000001), "1000000000000001")
	expect(t, "Decimal", impl.Decimal(math.MaxInt64), "9223372036854775807")
	expect(t, "Decimal", impl.Decimal(math.MinInt64), "-9223372036854775808")
}

// nearDecimals are texts that are no decimals of numbers that texts may have.
func nearDecimals() []string {
	return []string{
		"", "-", "+", "+1", "-0", "+0", "00", "01", "-01", "--1", "1-", " 1", "1 ", "1\n", "1.0", "1e3", "0x1", "1_000", "a", "1a", "none ",
		"1000000000000001", "-1000000000000001", "9223372036854775807", "9223372036854775808", "-9223372036854775808", "-9223372036854775809",
		"18446744073709551617", strings.Repeat("1", 400), "\xef\xbc\x91", "\x00", "1\x00", "١",
	}
}

func TestReadDecimalFails(t *testing.T) {
	for _, text := range append(nearDecimals(), "none", "1,2") {
		n, ok := impl.ReadDecimal(text)
		expectFailure(t, "ReadDecimal "+text, n == 0, ok)
	}
}

func TestListText(t *testing.T) {
	tests := []struct {
		list []int64
		want string
	}{
		{nil, "none"},
		{[]int64{}, "none"},
		{[]int64{0}, "0"},
		{[]int64{3, -1, 3}, "3,-1,3"},
		{[]int64{-1000000000000000, 1000000000000000}, "-1000000000000000,1000000000000000"},
	}
	for _, test := range tests {
		got, ok := impl.ListText(test.list)
		if !ok {
			t.Errorf("ListText %v: fails", test.list)
		}
		expect(t, "ListText", got, test.want)
		if list, ok := impl.ReadList(test.want); !ok || !slices.Equal(list, test.list) {
			t.Errorf("ReadList %s: got %v, %v", test.want, list, ok)
		}
	}
}

func TestListTextFails(t *testing.T) {
	lists := [][]int64{
		{1000000000000001}, {-1000000000000001}, {0, 1000000000000001}, {1000000000000001, 0},
		{math.MaxInt64}, {math.MinInt64}, repeated(int64(1), 65), repeated(int64(1), 1000),
	}
	for _, list := range lists {
		text, ok := impl.ListText(list)
		expectFailure(t, "ListText", text == "", ok)
	}
}

func TestReadListFails(t *testing.T) {
	texts := []string{",", "1,", ",1", "1,,2", "1, 2", "1;2", "none,", "none,1", "1,none", "None", "nonenone"}
	for _, near := range nearDecimals() {
		texts = append(texts, near, "1,"+near, near+",1")
	}
	for _, text := range texts {
		list, ok := impl.ReadList(text)
		expectFailure(t, "ReadList "+text, len(list) == 0, ok)
	}
}

// joined returns the text of count equal words with commas between them.
func joined(word string, count int) string {
	return strings.Join(repeated(word, count), ",")
}

// Promise 2: texts of lists at their limit are written and read.
func TestTextsAtTheLimit(t *testing.T) {
	numbers, isNumbers := impl.NumbersText(repeated(float32(1), 256))
	pairs, isPairs := impl.ComplexText(repeated(complex64(1), 256))
	values, isValues := impl.ListText(repeated(int64(-7), 64))
	if !isNumbers || numbers != joined("3f800000", 256) {
		t.Errorf("NumbersText: %v", isNumbers)
	}
	if !isPairs || pairs != joined("3f80000000000000", 256) {
		t.Errorf("ComplexText: %v", isPairs)
	}
	if !isValues || values != joined("-7", 64) {
		t.Errorf("ListText: %v", isValues)
	}
	readNumbers, isNumbers := impl.ReadNumbers(numbers)
	readPairs, isPairs := impl.ReadComplex(pairs)
	readValues, isValues := impl.ReadList(values)
	if !isNumbers || !slices.Equal(readNumbers, repeated(float32(1), 256)) {
		t.Errorf("ReadNumbers: %v", isNumbers)
	}
	if !isPairs || !slices.Equal(readPairs, repeated(complex64(1), 256)) {
		t.Errorf("ReadComplex: %v", isPairs)
	}
	if !isValues || !slices.Equal(readValues, repeated(int64(-7), 64)) {
		t.Errorf("ReadList: %v", isValues)
	}
}

// Promise 1: texts of lists beyond their limit fail with zero values, however long they are.
func TestTextsBeyondTheLimit(t *testing.T) {
	for _, count := range []int{257, 258, 100000} {
		text, ok := impl.NumbersText(repeated(float32(1), count))
		expectFailure(t, "NumbersText", text == "", ok)
		text, ok = impl.ComplexText(repeated(complex64(1), count))
		expectFailure(t, "ComplexText", text == "", ok)
		numbers, ok := impl.ReadNumbers(joined("3f800000", count))
		expectFailure(t, "ReadNumbers", len(numbers) == 0, ok)
		pairs, ok := impl.ReadComplex(joined("3f80000000000000", count))
		expectFailure(t, "ReadComplex", len(pairs) == 0, ok)
	}
	for _, count := range []int{65, 66, 100000} {
		values, ok := impl.ReadList(joined("1", count))
		expectFailure(t, "ReadList", len(values) == 0, ok)
	}
}

// Promise 2: check numbers go from byte to byte.
func TestCheckOf(t *testing.T) {
	tests := []struct {
		start int64
		text  string
		want  int64
	}{
		{0, "", 0}, {65002, "", 65002}, {0, "a", 140}, {0, "\x00", 43}, {0, "\xff", 298},
		{0, "ab", 31878}, {1, "a", 831}, {65002, "a", 64452}, {94, "\x06", 0}, {0, "é", 34664},
	}
	for _, test := range tests {
		if got, ok := impl.CheckOf(test.start, test.text); !ok || got != test.want {
			t.Errorf("CheckOf %d, %q: got %d, %v, want %d", test.start, test.text, got, ok, test.want)
		}
	}
	text := strings.Repeat("\xff\x00~", 5000)
	for _, cut := range []int{0, 1, 777, len(text)} {
		first, _ := impl.CheckOf(17, text[:cut])
		both, _ := impl.CheckOf(first, text[cut:])
		if whole, ok := impl.CheckOf(17, text); !ok || whole != both || whole < 0 || whole >= 65003 {
			t.Errorf("CheckOf: cut at %d: got %d, %v, want %d", cut, both, ok, whole)
		}
	}
	for _, start := range []int64{-1, 65003, 65004, math.MinInt64, math.MaxInt64} {
		check, ok := impl.CheckOf(start, "a")
		expectFailure(t, "CheckOf", check == 0, ok)
	}
}
