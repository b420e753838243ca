package tests

import (
	"slices"
	"testing"

	"facet/api"
	"facet/count"
	"facet/hull"
	"facet/poset"
	"facet/volume"
)

// smallPosets: all orders of up to 3 things, and some of 4.
func smallPosets() []api.Poset {
	d := die(531)
	out := slices.Concat(allPosets(1), allPosets(2), allPosets(3), []api.Poset{orderOf(4), rising(4), diamond()})
	for range 20 {
		out = append(out, drawnPoset(&d, 4))
	}
	return out
}

// The whole, point 7: an order's polytope counts it: there is as much in it, and in the
// other one, as there are orders.
func TestAsMuchInItAsOrders(t *testing.T) {
	for _, p := range smallPosets() {
		o := toldOf(p, 2)
		order, e := volume.Of(o.order)
		chain, f := volume.Of(o.chain)
		if e+f != api.OK || order != len(o.orders) || chain != len(o.orders) {
			t.Errorf("%v: %d orders, %d in the one (%d), %d in the other (%d)", p, len(o.orders), order, e, chain, f)
		}
	}
}

// The whole, point 7: places of whole numbers in k times it are maps to 0 .. k; within it
// they are strict maps to 1 .. k - 1; and in the other one there are as many.
func TestPlacesAreMaps(t *testing.T) {
	for _, p := range smallPosets() {
		for k := range 6 {
			o := toldOf(p, k+1)
			_, inside, e := poset.Maps(p, max(k-1, 0))
			for _, q := range []api.Polytope{o.order, o.chain} {
				places, f := count.Points(q, k)
				if e+f != api.OK || places != o.weak {
					t.Errorf("%v: in %d times it %d places (%d), %d maps", p, k, places, f, o.weak)
				}
				if k == 0 {
					continue
				}
				if inner, f := count.Inner(q, k); f != api.OK || inner != inside {
					t.Errorf("%v: within %d times it %d places (%d), %d strict maps", p, k, inner, f, inside)
				}
			}
		}
	}
}

// The whole, point 7: no point is between others, and the rows are those of the least, of
// the greatest, and of each thing with the next one above it.
func TestRowsOfAnOrdersPolytope(t *testing.T) {
	for _, p := range smallPosets() {
		o := toldOf(p, 2)
		for _, q := range []api.Polytope{o.order, o.chain} {
			sorted := copied(q.Points)
			slices.SortFunc(sorted, slices.Compare[[]int])
			if corners, e := hull.Corners(q); e != api.OK || !alike(corners, sorted) {
				t.Errorf("%v: corners %v, %d, of %v", p, corners, e, q.Points)
			}
		}
		var want [][]int
		for i := range p.N {
			isLeast := true
			for k := range p.N {
				isLeast = isLeast && !isHigher(p, k, i)
				if isNextAbove(p, i, k) {
					row := make([]int, p.N+1)
					row[i], row[k] = 1, -1
					want = append(want, row)
				}
			}
			if isLeast {
				row := make([]int, p.N+1)
				row[i] = -1
				want = append(want, row)
			}
			if o.above[i] == 0 {
				row := make([]int, p.N+1)
				row[i], row[p.N] = 1, 1
				want = append(want, row)
			}
		}
		slices.SortFunc(want, slices.Compare[[]int])
		if rows, e := hull.Rows(o.order); e != api.OK || !alike(rows, want) {
			t.Errorf("%v: rows %v, %d, want %v", p, rows, e, want)
		}
	}
}

// isNextAbove: is k above i, and nothing between?
func isNextAbove(p api.Poset, i, k int) bool {
	for j := range p.N {
		if isHigher(p, i, j) && isHigher(p, j, k) {
			return false
		}
	}
	return isHigher(p, i, k)
}

// The whole, point 7: there are as many filters as sets apart: of each filter its least
// ones; and a filter is a map to 0 and 1.
func TestAsManyFiltersAsApart(t *testing.T) {
	for _, p := range somePosets(532, 12) {
		o := toldOf(p, 2)
		var least []int
		for _, f := range o.filters {
			low := f
			for _, i := range bitsOf(f) {
				low &^= o.above[i]
			}
			least = append(least, low)
		}
		slices.Sort(least)
		if !slices.Equal(least, o.apart) || o.weak != len(o.filters) {
			t.Errorf("%v: the least of filters %v, apart %v, %d maps", p, least, o.apart, o.weak)
		}
	}
}

// O2: Moebius's numbers undo sums over all below.
func TestMoebiusUndoesSums(t *testing.T) {
	d := die(533)
	for _, p := range somePosets(534, 12) {
		o := toldOf(p, 2)
		values := d.list(p.N, 50)
		sums := slices.Clone(values)
		for i, above := range o.above {
			for _, k := range bitsOf(above) {
				sums[k] += values[i]
			}
		}
		for k := range p.N {
			back := 0
			for i := range p.N {
				back += sums[i] * o.moebius[i][k]
			}
			if back != values[k] {
				t.Errorf("%v: of %v the sums are %v, and %d comes back at %d", p, values, sums, back, k)
			}
		}
	}
}
