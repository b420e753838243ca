package tests

import (
	"math"
	"testing"

	"facet/api"
	"facet/hull"
)

type hullCheckCase struct {
	what string
	p    api.Polytope
	want api.Errno
}

// simplex of a dimension, from 0 to so much in each direction.
func simplex(dim, much int) [][]int {
	points := [][]int{make([]int, dim)}
	for i := range dim {
		x := make([]int, dim)
		x[i] = much
		points = append(points, x)
	}
	return points
}

func hullCheckCases() []hullCheckCase {
	const most = api.MaxCoord
	of := func(dim int, points ...[]int) api.Polytope { return api.Polytope{Dim: dim, Points: points} }
	many := func(dim, n int) [][]int {
		return append(simplex(dim, 1), repeat(make([]int, dim), n-dim-1)...)
	}
	return []hullCheckCase{
		{"the zero value", api.Polytope{}, api.ErrDim},
		{"no dimension", of(0, []int{}, []int{}), api.ErrDim},
		{"below 0", of(-1, []int{0}, []int{1}), api.ErrDim},
		{"the least dimension", of(1, []int{0}, []int{1}), api.OK},
		{"the greatest dimension", of(api.MaxDim, simplex(api.MaxDim, 1)...), api.OK},
		{"a dimension too many", of(api.MaxDim+1, simplex(api.MaxDim+1, 1)...), api.ErrDim},
		{"the greatest int as dimension", of(math.MaxInt, []int{0}), api.ErrDim},
		{"the least int as dimension", of(math.MinInt, []int{0}), api.ErrDim},
		{"the dimension is told ahead of the count", of(5), api.ErrDim},

		{"no list of points", of(2), api.ErrCount},
		{"no point", of(2, [][]int{}...), api.ErrCount},
		{"the most points", of(2, many(2, api.MaxPoints)...), api.OK},
		{"a point too many", of(2, many(2, api.MaxPoints+1)...), api.ErrCount},
		{"a point too many, all wrong", of(2, repeat([]int{most + 1}, api.MaxPoints+1)...), api.ErrCount},

		{"a point of too few numbers", of(2, []int{0, 0}, []int{1}, []int{0, 1}), api.ErrForm},
		{"a point of too many numbers", of(2, []int{0, 0, 0}, []int{1, 0}, []int{0, 1}), api.ErrForm},
		{"points alike, but not of Dim", of(2, simplex(3, 1)...), api.ErrForm},
		{"a point that is nil", of(1, []int{0}, []int{1}, nil), api.ErrForm},

		{"numbers at the bound", of(2, []int{-most, -most}, []int{most, -most}, []int{-most, most}), api.OK},
		{"above the bound", of(1, []int{0}, []int{most + 1}), api.ErrValue},
		{"below the bound", of(1, []int{0}, []int{-most - 1}), api.ErrValue},
		{"the greatest int", of(2, []int{0, 0}, []int{1, 0}, []int{0, math.MaxInt}), api.ErrValue},
		{"the least int", of(2, []int{0, 0}, []int{1, 0}, []int{0, math.MinInt}), api.ErrValue},

		{"a point's form ahead of its value", of(1, []int{0}, []int{most + 1, 0}), api.ErrForm},
		{"the first one's value ahead of the second's form", of(1, []int{most + 1}, []int{0, 0}), api.ErrValue},
		{"the second one's form ahead of the third's value", of(1, []int{0}, []int{0, 0}, []int{most + 1}), api.ErrForm},
		{"a form ahead of flatness", of(2, []int{0, 0}, []int{0}), api.ErrForm},
		{"a value ahead of flatness", of(2, []int{0, most + 1}), api.ErrValue},

		{"one point", of(1, []int{5}), api.ErrFlat},
		{"one point, again and again", of(1, repeat([]int{5}, api.MaxPoints)...), api.ErrFlat},
		{"two points in the plane", of(2, []int{0, 0}, []int{1, 1}), api.ErrFlat},
		{"points on a line not through 0", of(2, []int{0, 1}, []int{1, 2}, []int{2, 3}, []int{-9, -8}), api.ErrFlat},
		{"next to a line", of(2, []int{0, 1}, []int{1, 2}, []int{2, 3}, []int{-9, -9}), api.OK},
		{"points on a plane not through 0", of(3, []int{1, 0, 0}, []int{0, 1, 0}, []int{0, 0, 1}, []int{2, -1, 0}), api.ErrFlat},
		{"one point of four dimensions too few", of(4, simplex(4, 1)[1:]...), api.ErrFlat},
		{"a last direction alone is missing", of(4, []int{0, 0, 0, 7}, []int{1, 0, 0, 7}, []int{0, 1, 0, 7}, []int{0, 0, 1, 7}, []int{1, 1, 1, 7}), api.ErrFlat},
		{"a thin sliver at the bound", of(2, []int{-most, -most}, []int{most, most}, []int{most - 1, most - 2}), api.OK},
	}
}

// B1
func TestHullCheck(t *testing.T) {
	for _, c := range hullCheckCases() {
		if got := hull.Check(c.p); got != c.want {
			t.Errorf("%s: hull.Check(%v) = %d, want %d", c.what, c.p, got, c.want)
		}
	}
}

// B1, Z1: each call says first what Check says, and nothing else with it.
func TestHullCallsSayWhatCheckSays(t *testing.T) {
	for _, c := range hullCheckCases() {
		if c.want == api.OK {
			continue
		}
		if r, e := hull.Rows(c.p); len(r) != 0 || e != c.want {
			t.Errorf("%s: Rows = %v, %d, want error %d", c.what, r, e, c.want)
		}
		if r, e := hull.Corners(c.p); len(r) != 0 || e != c.want {
			t.Errorf("%s: Corners = %v, %d, want error %d", c.what, r, e, c.want)
		}
		for _, x := range [][]int{nil, {0}, {0, 0}, {1000}} {
			if w, e := hull.Where(c.p, x); w != 0 || e != c.want {
				t.Errorf("%s: Where of %v = %d, %d, want error %d", c.what, x, w, e, c.want)
			}
		}
	}
}

// B3
func TestHullWhereErrors(t *testing.T) {
	p := api.Polytope{Dim: 2, Points: simplex(2, 1)}
	for _, c := range []struct {
		x    []int
		want api.Errno
	}{
		{nil, api.ErrForm},
		{[]int{}, api.ErrForm},
		{[]int{0}, api.ErrForm},
		{[]int{0, 0, 0}, api.ErrForm},
		{[]int{101}, api.ErrForm},
		{[]int{0, 101}, api.ErrValue},
		{[]int{-101, 0}, api.ErrValue},
		{[]int{math.MinInt, 0}, api.ErrValue},
		{[]int{0, math.MaxInt}, api.ErrValue},
	} {
		if got, e := hull.Where(p, c.x); got != 0 || e != c.want {
			t.Errorf("hull.Where(%v) = %d, %d, want error %d", c.x, got, e, c.want)
		}
	}
	for _, x := range [][]int{{100, 100}, {-100, -100}, {100, -100}} {
		if got, e := hull.Where(p, x); got != 1 || e != api.OK {
			t.Errorf("hull.Where(%v) = %d, %d, want 1", x, got, e)
		}
	}
}
