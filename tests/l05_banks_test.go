package tests

import (
	"fmt"
	"testing"

	"loop.example/g01212/impl"
)

// Promise 6: a bank is one bus more, with a line of zeros and the same load in all phases.
func TestAddBank(t *testing.T) {
	for _, parents := range someParents() {
		if len(parents) == impl.MaxBuses {
			parents = parents[:impl.MaxBuses-1]
		}
		f := treeOf(parents)
		for bus := range int64(len(parents)) {
			for size, load := range map[float32]complex64{0.5: complex(0, -2), -0.25: complex(0, 4), 8: complex(0, -0.125)} {
				banked, ok := impl.AddBank(f, bus, size)
				want := treeOf(parents)
				want.Buses = append(want.Buses, impl.Bus{Parent: bus, Kind: impl.LoadImpedance, Load: sameThree(load)})
				expectFeeder(t, fmt.Sprint("AddBank of ", size), banked, ok, want)
				cut, ok := impl.CutFeeder(banked, int64(len(parents)))
				expectFeeder(t, "a feeder without its bank", cut, ok, f)
			}
		}
	}
}

// Promise 6: sizes can be any finite numbers but zeros, and their loads can be infinite.
func TestSizesAtTheEdges(t *testing.T) {
	for _, size := range []float32{leastSubnormal, -leastSubnormal, mostSubnormal, leastNormal, 1, -1, greatestNumber, -greatestNumber} {
		banked, ok := impl.AddBank(treeOf([]int64{-1}), 0, size)
		if !ok || len(banked.Buses) != 2 {
			t.Fatalf("AddBank of %v: got %v", size, ok)
		}
		load := impl.QuotientOf(1, complex(0, size))
		expectPhases(t, fmt.Sprint("AddBank of ", size), banked.Buses[1].Load, sameThree(load))
	}
	banked, _ := impl.AddBank(treeOf([]int64{-1}), 0, leastSubnormal)
	expectComplex(t, "AddBank of the least number", banked.Buses[1].Load.B, complex(0, negativeInfinity))
}

// loaded is a feeder whose bus 1 has the voltages 4 behind one round, and 4 plus 8
// times the size with a bank.
func loaded() impl.Feeder {
	return impl.Feeder{Source: sameThree(8), Buses: []impl.Bus{
		{Parent: -1},
		{Parent: 0, Own: complex(0, 1), Kind: impl.LoadCurrent, Load: sameThree(complex(0, -4))},
	}}
}

// expectBest reports an index that is not that of the best size.
func expectBest(t *testing.T, f impl.Feeder, bus int64, sizes []float32, rounds, want int64) {
	t.Helper()
	best, ok := impl.BestBank(f, bus, sizes, rounds)
	if !ok || best != want {
		t.Errorf("BestBank of %v in %d rounds: got %d, %v, want %d", sizes, rounds, best, ok, want)
	}
}

// Promise 6: the best bank lifts the lowest voltage most, and the first one of several does.
func TestBestBank(t *testing.T) {
	cases := []struct {
		sizes []float32
		want  int64
	}{
		{[]float32{0.125}, 0}, {[]float32{-3}, 0}, {[]float32{0.125, 0.25, 0.375, 0.25}, 2}, {[]float32{0.375, 0.25, 0.125}, 0},
		{[]float32{0.25, 0.375, 0.375}, 1}, {[]float32{0.375, 0.375, 0.375}, 0}, {[]float32{-0.125, -0.25}, 0}, {[]float32{-0.25, -0.125, 0.125, -0.5}, 2},
		{[]float32{0.25, 0.5, 0.75, 0.5}, 1}, {[]float32{0.75, 0.5}, 0}, {[]float32{1, 0.25}, 0}, {[]float32{-0.5, -3, 0.125}, 1},
		{[]float32{1, 2, 3, 4, 5, 6, 7, 8, 9, 10, 11, 12, 13, 14, 15, 16}, 0},
		{[]float32{-0.5, 0.1, 0.2, 0.3, 0.31, 0.32, 0.33, 0.34, 0.35, 0.36, 0.37, 0.38, 0.39, 0.4, 0.41, 0.42}, 15},
	}
	for _, c := range cases {
		expectBest(t, loaded(), 1, c.sizes, 1, c.want)
		expectBest(t, loaded(), 1, c.sizes, 0, 0)
		expectBest(t, loaded(), 0, c.sizes, 1, 0)
		expectBest(t, loaded(), 0, c.sizes, 50, 0)
	}
}

// bestBank returns the index of the best size, and whether all sizes have a lowest bus.
func bestBank(t *testing.T, f impl.Feeder, bus int64, sizes []float32, rounds int64) (int64, bool) {
	t.Helper()
	best, greatest := int64(0), negativeInfinity
	for i, size := range sizes {
		banked, ok := impl.AddBank(f, bus, size)
		if !ok {
			return 0, false
		}
		_, low, ok := impl.LowestBus(banked, run(t, banked, repeated(f.Source, len(banked.Buses)), rounds))
		if !ok {
			return 0, false
		}
		if low > greatest {
			best, greatest = int64(i), low
		}
	}
	return best, true
}

// Promise 6: the best bank is what rounds over feeders with banks tell, whatever their numbers are.
func TestBestBankOfOddFeeders(t *testing.T) {
	feeders := append(oddFeeders(), gentle([]int64{-1}), gentle([]int64{-1, 0}), gentle(rowParents(15)), gentle(starParents(15)), halving(0.5))
	for _, f := range feeders {
		for _, bus := range []int64{0, int64(len(f.Buses)) - 1} {
			for _, sizes := range [][]float32{{0.001}, {0.01, 0.02, 0.05, -0.01}, {leastSubnormal, 1, greatestNumber, 0.01}, {-1, -0.5, -0.001, -0.001}} {
				for _, rounds := range []int64{0, 1, 7, 50} {
					want, wantOk := bestBank(t, f, bus, sizes, rounds)
					best, ok := impl.BestBank(f, bus, sizes, rounds)
					if best != want || ok != wantOk {
						t.Errorf("BestBank of %v in %d rounds: got %d, %v, want %d, %v", sizes, rounds, best, ok, want, wantOk)
					}
				}
			}
		}
	}
}

// Promise 6: banks at a feeder with the greatest number of buses fail, and one bus less will do.
func TestBanksAtTheLimit(t *testing.T) {
	for _, parents := range [][]int64{rowParents(15), starParents(15)} {
		banked, ok := impl.AddBank(gentle(parents), 14, 0.01)
		if !ok || len(banked.Buses) != 16 {
			t.Fatalf("AddBank at 15 buses: got %d, %v", len(banked.Buses), ok)
		}
		expectBest(t, gentle(parents), 14, []float32{0.25, 0.25}, 3, 0)
		again, ok := impl.AddBank(banked, 14, 0.01)
		expectNoFeeder(t, "AddBank at 16 buses", again, ok)
		for _, rounds := range []int64{0, 1, 50} {
			best, ok := impl.BestBank(banked, 15, []float32{0.25, 0.5}, rounds)
			expectFailure(t, "BestBank at 16 buses", best == 0, ok)
		}
	}
}
