package tests

import (
	"slices"
	"testing"

	"facet/api"
	"facet/count"
	"facet/exact"
	"facet/face"
	"facet/hull"
	"facet/named"
	"facet/polar"
	"facet/sum"
	"facet/volume"
)

// Each point of a polytope that has a name is a corner, and no two are the same.
func TestNamedPointsAreCorners(t *testing.T) {
	for _, k := range namedKinds() {
		for d := 1; d <= k.most; d++ {
			p, _ := k.of(d)
			want := copied(p.Points)
			slices.SortFunc(want, slices.Compare[[]int])
			if got, e := hull.Corners(p); e != api.OK || !alike(got, want) {
				t.Errorf("named.%s(%d) = %v has corners %v, %d", k.name, d, p, got, e)
			}
		}
	}
}

func TestNamedKind(t *testing.T) {
	for _, k := range namedKinds() {
		for d := 3; d <= k.most; d++ {
			p, _ := k.of(d)
			simplicial, simple, e := face.Kind(p)
			if e != api.OK || simplicial != (k.name == "Simplex" || k.name == "Cross") || simple != (k.name != "Cross") {
				t.Errorf("named.%s(%d): %v, %v, %d", k.name, d, simplicial, simple, e)
			}
		}
	}
}

// A cross, turned about, is a cube around 0.
func TestNamedCrossTurnsToCube(t *testing.T) {
	for d := 1; d <= 4; d++ {
		p, _ := named.Cross(d)
		turned, e := polar.Turn(p)
		small, _ := named.Cube(d)
		if same, f := face.Alike(turned, small); e != api.OK || f != api.OK || !same {
			t.Errorf("named.Cross(%d), turned about: %v, %d", d, turned, e)
		}
		want := copied(small.Points)
		for _, x := range want {
			for i := range x {
				x[i] = 2*x[i] - 1
			}
		}
		if !alike(turned.Points, want) {
			t.Errorf("named.Cross(%d), turned about: %v, want %v", d, turned.Points, want)
		}
	}
}

// In how many ways some of n knots' pairs are joined without a way around, by how many pairs.
func forests(n int) []int {
	var pairs [][]int
	for b := range n {
		for a := range b {
			pairs = append(pairs, []int{a, b})
		}
	}
	out := make([]int, n)
	for bits := range 1 << len(pairs) {
		var edges [][2]int
		for i, pair := range pairs {
			if bits>>i&1 == 1 {
				edges = append(edges, [2]int{pair[0], pair[1]})
			}
		}
		if noWayAround(n, edges) {
			out[len(edges)]++
		}
	}
	return out
}

// The polytope of orders has as many places of whole numbers as there are forests, and as
// much in it as there are trees; so k times it, edge by edge.
func TestNamedOrdersCountForests(t *testing.T) {
	factorial := 1
	for d := 1; d <= 3; d++ {
		factorial *= d
		p, _ := named.Orders(d)
		want := forests(d + 1)
		for i := range want {
			want[i] *= factorial
		}
		if got, e := count.Ehrhart(p); e != api.OK || !slices.Equal(got, want) {
			t.Errorf("count.Ehrhart(named.Orders(%d)) = %v, %d, want %v", d, got, e, want)
		}
		if got, e := volume.Of(p); e != api.OK || got != want[d] {
			t.Errorf("volume.Of(named.Orders(%d)) = %d, %d, want %d", d, got, e, want[d])
		}
	}
}

// The polytope of orders is a sum of segments.
func TestNamedOrdersAreAZone(t *testing.T) {
	p, _ := named.Orders(2)
	zone, e := sum.Zone(2, [][]int{{1, -1}, {1, 0}, {0, 1}})
	var want [][]int
	for _, x := range zone {
		want = append(want, exact.Sum(x, []int{1, 2}))
	}
	if e != api.OK || !alike(p.Points, want) {
		t.Errorf("named.Orders(2) = %v, want %v", p, want)
	}
}

// The polytope of trees is that of orders with some sides left out.
func TestNamedTreesAreCutByFewerRows(t *testing.T) {
	for d := 1; d <= 3; d++ {
		orders, _ := named.Orders(d)
		trees, _ := named.Trees(d)
		of, e := hull.Rows(orders)
		rows, f := hull.Rows(trees)
		if e != api.OK || f != api.OK || len(rows) != d*(d+3)/2 {
			t.Errorf("named.Trees(%d) has rows %v, %d", d, rows, f)
		}
		for _, row := range rows {
			if !isOneOf(of, row) {
				t.Errorf("named.Trees(%d): %v is no row of %v", d, row, of)
			}
		}
	}
}

func TestNamedVolumes(t *testing.T) {
	for d, factorial := 1, 1; d <= 4; d++ {
		factorial *= d
		for _, c := range []struct {
			of   func(d int) (api.Polytope, api.Errno)
			want int
		}{{named.Simplex, 1}, {named.Cube, factorial}, {named.Cross, 1 << d}} {
			p, _ := c.of(d)
			if got, e := volume.Of(p); e != api.OK || got != c.want {
				t.Errorf("volume.Of(%v) = %d, %d, want %d", p, got, e, c.want)
			}
		}
	}
}
