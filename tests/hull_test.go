package tests

import (
	"math"
	"slices"
	"testing"

	"facet/api"
	"facet/hull"
)

type hullCase struct {
	what          string
	p             api.Polytope
	rows, corners [][]int
}

func hullCases() []hullCase {
	of := func(dim int, points ...[]int) api.Polytope { return api.Polytope{Dim: dim, Points: points} }
	square := [][]int{{0, 0}, {0, 2}, {2, 0}, {2, 2}}
	squareRows := [][]int{{-1, 0, 0}, {0, -1, 0}, {0, 1, 2}, {1, 0, 2}}
	return []hullCase{
		{"a segment", of(1, []int{3}, []int{-2}, []int{0}),
			[][]int{{-1, 2}, {1, 3}}, [][]int{{-2}, {3}}},
		{"the longest segment", of(1, []int{100}, []int{-100}),
			[][]int{{-1, 100}, {1, 100}}, [][]int{{-100}, {100}}},
		{"the square", of(2, []int{0, 0}, []int{2, 0}, []int{0, 2}, []int{2, 2}), squareRows, square},
		{"the square, points twice, between and inside",
			of(2, []int{2, 2}, []int{1, 1}, []int{0, 0}, []int{2, 2}, []int{1, 0}, []int{2, 0}, []int{0, 1}, []int{0, 2}, []int{0, 0}, []int{1, 0}),
			squareRows, square},
		{"a triangle whose rows have to be lowered", of(2, []int{0, 0}, []int{4, 2}, []int{0, 3}),
			[][]int{{-1, 0, 0}, {1, -2, 0}, {1, 4, 12}}, [][]int{{0, 0}, {0, 3}, {4, 2}}},
		{"a triangle away from 0", of(2, []int{3, 5}, []int{5, 5}, []int{4, 7}),
			[][]int{{-2, 1, -1}, {0, -1, -5}, {2, 1, 15}}, [][]int{{3, 5}, {4, 7}, {5, 5}}},
		{"a roof", of(3, []int{0, 0, 0}, []int{2, 0, 0}, []int{0, 2, 0}, []int{2, 2, 0}, []int{1, 1, 1}),
			[][]int{{-1, 0, 1, 0}, {0, -1, 1, 0}, {0, 0, -1, 0}, {0, 1, 1, 2}, {1, 0, 1, 2}},
			[][]int{{0, 0, 0}, {0, 2, 0}, {1, 1, 1}, {2, 0, 0}, {2, 2, 0}}},
		{"four dimensions", of(4, simplex(4, 3)...),
			[][]int{{-1, 0, 0, 0, 0}, {0, -1, 0, 0, 0}, {0, 0, -1, 0, 0}, {0, 0, 0, -1, 0}, {1, 1, 1, 1, 3}},
			[][]int{{0, 0, 0, 0}, {0, 0, 0, 3}, {0, 0, 3, 0}, {0, 3, 0, 0}, {3, 0, 0, 0}}},
	}
}

// B2
func TestHullRowsAndCorners(t *testing.T) {
	for _, c := range hullCases() {
		if got, e := hull.Rows(c.p); e != api.OK || !alike(got, c.rows) {
			t.Errorf("%s: Rows = %v, %d, want %v", c.what, got, e, c.rows)
		}
		if got, e := hull.Corners(c.p); e != api.OK || !alike(got, c.corners) {
			t.Errorf("%s: Corners = %v, %d, want %v", c.what, got, e, c.corners)
		}
	}
}

// B2: polytopes of which it is known how many rows and corners they have.
func TestHullHowManyRowsAndCorners(t *testing.T) {
	cube, cross := [][]int{}, [][]int{}
	for bits := range 16 {
		cube = append(cube, []int{100 * (bits & 1), bits >> 1 & 1, bits >> 2 & 1, 100*(bits>>3) - 50})
	}
	for i := range 4 {
		up, down := make([]int, 4), make([]int, 4)
		up[i], down[i] = 100, -100
		cross = append(cross, up, down, make([]int, 4))
	}
	cyclic, _ := hull.Cyclic(4, 7)
	full, _ := hull.Cyclic(2, 21)
	around := [][]int{{100, 0, 0, 0}, {0, 100, 0, 0}, {0, 0, 100, 0}, {0, 0, 0, 100}, {-100, -100, -100, -100}, {0, 0, 0, 0}}
	for _, c := range []struct {
		what          string
		p             api.Polytope
		rows, corners int
	}{
		{"cube", api.Polytope{Dim: 4, Points: cube}, 8, 16},
		{"cross", api.Polytope{Dim: 4, Points: cross}, 16, 8},
		{"simplex around 0", api.Polytope{Dim: 4, Points: around}, 5, 5},
		{"cyclic 4 7", cyclic, 14, 7},
		{"cyclic 2 21", full, 21, 21},
	} {
		rows, e := hull.Rows(c.p)
		corners, f := hull.Corners(c.p)
		if len(rows) != c.rows || len(corners) != c.corners || e != api.OK || f != api.OK {
			t.Errorf("%s: %d rows, %d corners, errors %d, %d; want %d, %d", c.what, len(rows), len(corners), e, f, c.rows, c.corners)
		}
	}
}

// B3
func TestHullWhere(t *testing.T) {
	roof := api.Polytope{Dim: 3, Points: [][]int{{0, 0, 0}, {4, 0, 0}, {0, 4, 0}, {4, 4, 0}, {2, 2, 2}, {2, 2, 1}}}
	segment := api.Polytope{Dim: 1, Points: [][]int{{-3}, {4}, {0}}}
	square := api.Polytope{Dim: 2, Points: [][]int{{0, 0}, {2, 0}, {0, 2}, {2, 2}}}
	for _, c := range []struct {
		p    api.Polytope
		x    []int
		want int
	}{
		{square, []int{1, 1}, -1},
		{square, []int{3, 0}, 1},
		{square, []int{2, 0}, 0},
		{square, []int{1, 2}, 0},
		{square, []int{-1, 1}, 1},
		{square, []int{0, 3}, 1},
		{segment, []int{-4}, 1},
		{segment, []int{-3}, 0},
		{segment, []int{0}, -1},
		{segment, []int{4}, 0},
		{segment, []int{5}, 1},
		{roof, []int{2, 2, 1}, -1},
		{roof, []int{2, 2, 2}, 0},
		{roof, []int{1, 2, 1}, 0},
		{roof, []int{1, 1, 0}, 0},
		{roof, []int{2, 2, 3}, 1},
		{roof, []int{0, 0, 1}, 1},
		{roof, []int{2, 2, -1}, 1},
	} {
		if got, e := hull.Where(c.p, c.x); e != api.OK || got != c.want {
			t.Errorf("hull.Where(%v, %v) = %d, %d, want %d", c.p, c.x, got, e, c.want)
		}
	}
}

// B3
func TestHullCyclic(t *testing.T) {
	for _, c := range []struct {
		dim, n int
		want   [][]int
	}{
		{1, 2, [][]int{{-1}, {0}}},
		{1, 3, [][]int{{-1}, {0}, {1}}},
		{2, 4, [][]int{{-2, 4}, {-1, 1}, {0, 0}, {1, 1}}},
		{3, 5, [][]int{{-2, 4, -8}, {-1, 1, -1}, {0, 0, 0}, {1, 1, 1}, {2, 4, 8}}},
		{4, 6, [][]int{{-3, 9, -27, 81}, {-2, 4, -8, 16}, {-1, 1, -1, 1}, {0, 0, 0, 0}, {1, 1, 1, 1}, {2, 4, 8, 16}}},
	} {
		got, e := hull.Cyclic(c.dim, c.n)
		if e != api.OK || got.Dim != c.dim || !alike(got.Points, c.want) {
			t.Errorf("hull.Cyclic(%d, %d) = %v, %d, want %v", c.dim, c.n, got, e, c.want)
		}
	}
}

// B3: each error, which is told first, and the numbers next to each bound.
func TestHullCyclicErrors(t *testing.T) {
	for _, c := range []struct {
		dim, n int
		want   api.Errno
	}{
		{0, 5, api.ErrDim}, {-1, 5, api.ErrDim}, {5, 6, api.ErrDim},
		{math.MinInt, 5, api.ErrDim}, {math.MaxInt, 5, api.ErrDim},
		{0, 0, api.ErrDim}, {5, 1000, api.ErrDim},
		{1, 1, api.ErrCount}, {1, 0, api.ErrCount}, {1, -7, api.ErrCount}, {4, 4, api.ErrCount},
		{1, math.MinInt, api.ErrCount}, {4, math.MaxInt, api.ErrCount},
		{1, 24, api.OK}, {1, 25, api.ErrCount}, {4, 25, api.ErrCount},
		{2, 3, api.OK}, {2, 20, api.OK}, {2, 21, api.OK}, {2, 22, api.ErrLimit}, {2, 24, api.ErrLimit},
		{3, 8, api.OK}, {3, 9, api.OK}, {3, 10, api.ErrLimit},
		{4, 5, api.OK}, {4, 7, api.OK}, {4, 8, api.ErrLimit}, {4, 24, api.ErrLimit},
	} {
		p, e := hull.Cyclic(c.dim, c.n)
		if e != c.want {
			t.Errorf("hull.Cyclic(%d, %d): error %d, want %d", c.dim, c.n, e, c.want)
		}
		if e != api.OK && (p.Dim != 0 || len(p.Points) != 0) {
			t.Errorf("hull.Cyclic(%d, %d) = %v beside error %d", c.dim, c.n, p, e)
		}
		if f := hull.Check(p); e == api.OK && f != api.OK {
			t.Errorf("hull.Cyclic(%d, %d): Check says %d", c.dim, c.n, f)
		}
	}
}

// Z2: nothing is written into, nothing behind it is read.
func TestHullListsStayAsTheyAre(t *testing.T) {
	points := [][]int{{2, 2}, {1, 1}, {0, 2}, {0, 2}, {2, 0}, {0, 0}, {1, 2}}
	p := api.Polytope{Dim: 2, Points: roomyLists(points)}
	x := roomy([]int{1, 2})
	if e := hull.Check(p); e != api.OK {
		t.Errorf("Check = %d", e)
	}
	rows, e := hull.Rows(p)
	corners, f := hull.Corners(p)
	w, g := hull.Where(p, x)
	if e != api.OK || f != api.OK || w != 0 || g != api.OK {
		t.Errorf("errors %d, %d, %d; Where = %d", e, f, g, w)
	}
	if !untouchedLists(p.Points, points) || !untouched(x, []int{1, 2}) {
		t.Error("what was handed in is not as it was")
	}
	if !apart(slices.Concat(p.Points, rows, corners, [][]int{x})...) || !apart(p.Points, rows, corners) {
		t.Error("an answer shares memory with an argument")
	}
}

// Z2: all that comes out is the caller's: no two lists share memory, of one answer or of several.
func TestHullAnswersAreFresh(t *testing.T) {
	var inner [][]int
	var outer [][][]int
	for range 2 {
		p, _ := hull.Cyclic(3, 7)
		rows, _ := hull.Rows(p)
		corners, _ := hull.Corners(p)
		outer = append(outer, p.Points, rows, corners)
		inner = slices.Concat(inner, p.Points, rows, corners)
	}
	if len(inner) < 40 || !apart(inner...) || !apart(outer...) {
		t.Error("two lists share memory")
	}
}
