package tests

import (
	"slices"
	"testing"

	"loop.example/g01212/impl"
)

// pathOf returns the path to a bus, worked out from the root.
func pathOf(parents []int64, bus int64) []int64 {
	if parents[bus] < 0 {
		return []int64{bus}
	}
	return append(pathOf(parents, parents[bus]), bus)
}

// belowOf returns the buses on whose path a bus is.
func belowOf(parents []int64, bus int64) []int64 {
	var list []int64
	for i := range parents {
		if slices.Contains(pathOf(parents, int64(i)), bus) {
			list = append(list, int64(i))
		}
	}
	return list
}

// Promise 3: paths, parts and children of all small trees.
func TestPathsAndParts(t *testing.T) {
	for _, parents := range someParents() {
		f := treeOf(parents)
		for i := range parents {
			bus := int64(i)
			path, ok := impl.PathTo(f, bus)
			expectList(t, "PathTo", path, ok, pathOf(parents, bus))
			below, ok := impl.BusesBelow(f, bus)
			expectList(t, "BusesBelow", below, ok, belowOf(parents, bus))
			var want []int64
			for child, parent := range parents {
				if parent == bus {
					want = append(want, int64(child))
				}
			}
			children, ok := impl.ChildrenOf(f, bus)
			expectList(t, "ChildrenOf", children, ok, want)
		}
	}
}

// Promise 3: depths and customers of all small trees.
func TestDepthAndCustomers(t *testing.T) {
	for _, parents := range someParents() {
		f := treeOf(parents)
		wantDepth := 0
		var want []int64
		for i := range parents {
			wantDepth = max(wantDepth, len(pathOf(parents, int64(i))))
			sum := int64(0)
			for _, at := range belowOf(parents, int64(i)) {
				sum += f.Buses[at].Customers
			}
			want = append(want, sum)
		}
		depth, ok := impl.DepthOf(f)
		if !ok || depth != int64(wantDepth) {
			t.Errorf("DepthOf %v: got %d, %v, want %d", parents, depth, ok, wantDepth)
		}
		customers, ok := impl.CustomersBelow(f)
		expectList(t, "CustomersBelow", customers, ok, want)
	}
}

// Promise 3: the feeder of the document's example.
func TestTreeOfTheExample(t *testing.T) {
	f := treeOf([]int64{-1, 0, 0, 1})
	path, ok := impl.PathTo(f, 3)
	expectList(t, "PathTo", path, ok, []int64{0, 1, 3})
	below, ok := impl.BusesBelow(f, 1)
	expectList(t, "BusesBelow", below, ok, []int64{1, 3})
	children, ok := impl.ChildrenOf(f, 0)
	expectList(t, "ChildrenOf", children, ok, []int64{1, 2})
	children, ok = impl.ChildrenOf(f, 3)
	expectList(t, "ChildrenOf a leaf", children, ok, nil)
	customers, ok := impl.CustomersBelow(f)
	expectList(t, "CustomersBelow", customers, ok, []int64{15, 10, 4, 8})
}

// Promise 3: a sum of customers can be greater than the limit of one bus.
func TestCustomersAtTheLimit(t *testing.T) {
	for _, parents := range [][]int64{rowParents(16), starParents(16)} {
		f := treeOf(parents)
		for i := range f.Buses {
			f.Buses[i].Customers = 1000000
		}
		customers, ok := impl.CustomersBelow(f)
		if !ok || len(customers) != 16 || customers[0] != 16000000 || customers[15] != 1000000 {
			t.Errorf("CustomersBelow: got %v, %v", customers, ok)
		}
	}
}

// expectImpedance reports sums along a path that are not what they must be.
func expectImpedance(t *testing.T, f impl.Feeder, bus int64, wantOwn, wantShared complex64) {
	t.Helper()
	own, shared, ok := impl.PathImpedance(f, bus)
	if !ok {
		t.Errorf("PathImpedance %d: fails", bus)
	}
	expectComplex(t, "Own of PathImpedance", own, wantOwn)
	expectComplex(t, "Shared of PathImpedance", shared, wantShared)
}

// Promise 3: impedances of paths are the sums of those of their lines.
func TestPathImpedance(t *testing.T) {
	for _, parents := range someParents() {
		f := treeOf(parents)
		for i := range parents {
			var own, shared complex64
			for _, at := range pathOf(parents, int64(i)) {
				own += f.Buses[at].Own
				shared += f.Buses[at].Shared
			}
			expectImpedance(t, f, int64(i), own, shared)
		}
	}
}

// Promise 3: these sums begin with +0, go from the root on, and round each time.
func TestOrderOfPathImpedance(t *testing.T) {
	zero := complex(negativeZero, negativeZero)
	f := treeOf(rowParents(4))
	f.Buses[0].Own, f.Buses[0].Shared = zero, zero
	f.Buses[1].Own, f.Buses[1].Shared = zero, complex(greatOdd, 1)
	f.Buses[2].Own, f.Buses[2].Shared = complex(greatOdd, 1), complex(1, 1)
	f.Buses[3].Own, f.Buses[3].Shared = complex(1, greatOdd), complex(1, greatOdd)
	expectImpedance(t, f, 0, 0, 0)
	expectImpedance(t, f, 1, 0, complex(greatOdd, 1))
	expectImpedance(t, f, 2, complex(greatOdd, 1), complex(greatOdd, 2))
	expectImpedance(t, f, 3, complex(greatOdd, greatOdd), complex(greatOdd, greatOdd+2))
	f.Buses[2].Shared, f.Buses[3].Own = complex(notANumber, positiveInfinity), complex(negativeInfinity, leastSubnormal)
	expectImpedance(t, f, 3, complex(negativeInfinity, 1), complex(notANumber, positiveInfinity))
}
