package tests

import (
	"math"
	"testing"

	"facet/api"
	"facet/half"
	"facet/lp"
)

type cutCheckCase struct {
	what string
	c    api.Cut
	want api.Errno
}

func cutOf(dim int, rows ...[]int) api.Cut { return api.Cut{Dim: dim, Rows: rows} }

func cutCheckCases() []cutCheckCase {
	const most = api.MaxCut
	flat := func(dim, n int) [][]int { return repeat(make([]int, dim+1), n) }
	return []cutCheckCase{
		{"the zero value", api.Cut{}, api.ErrDim},
		{"no dimension", cutOf(0, []int{1}), api.ErrDim},
		{"below 0", cutOf(-1, []int{}), api.ErrDim},
		{"the least dimension", cutOf(1, []int{1, 1}), api.OK},
		{"the greatest dimension", cutOf(api.MaxDim, []int{1, 1, 1, 1, 1}), api.OK},
		{"a dimension too many", cutOf(api.MaxDim+1, []int{1, 1, 1, 1, 1, 1}), api.ErrDim},
		{"the greatest int as dimension", cutOf(math.MaxInt, []int{1}), api.ErrDim},
		{"the least int as dimension", cutOf(math.MinInt, []int{1}), api.ErrDim},
		{"the dimension ahead of the count", cutOf(5, flat(5, 13)...), api.ErrDim},
		{"the dimension ahead of the form", cutOf(0, []int{1, 2}), api.ErrDim},
		{"the dimension ahead of the value", cutOf(5, []int{99, 0, 0, 0, 0, 0}), api.ErrDim},

		{"no list of rows", cutOf(2), api.OK},
		{"no row", cutOf(3, [][]int{}...), api.OK},
		{"the most rows", cutOf(2, flat(2, api.MaxRows)...), api.OK},
		{"the most rows of the greatest dimension", cutOf(4, flat(4, api.MaxRows)...), api.OK},
		{"a row too many", cutOf(2, flat(2, api.MaxRows+1)...), api.ErrCount},
		{"the count ahead of the form", cutOf(2, flat(1, api.MaxRows+1)...), api.ErrCount},
		{"the count ahead of the value", cutOf(1, repeat([]int{21, 0}, api.MaxRows+1)...), api.ErrCount},

		{"a row without b", cutOf(2, []int{1, 2}), api.ErrForm},
		{"a row too long", cutOf(2, []int{1, 2, 3, 4}), api.ErrForm},
		{"a row that is nil", cutOf(1, []int{1, 1}, nil), api.ErrForm},
		{"the last row too short", cutOf(4, []int{1, 1, 1, 1, 1}, []int{1, 1, 1, 1}), api.ErrForm},

		{"numbers at the bound", cutOf(2, []int{most, -most, most}, []int{-most, most, -most}), api.OK},
		{"above the bound", cutOf(2, []int{most + 1, 0, 0}), api.ErrValue},
		{"below the bound", cutOf(2, []int{0, -most - 1, 0}), api.ErrValue},
		{"b above the bound", cutOf(2, []int{0, 0, most + 1}), api.ErrValue},
		{"b below the bound", cutOf(2, []int{0, 0, -most - 1}), api.ErrValue},
		{"the greatest int", cutOf(1, []int{math.MaxInt, 0}), api.ErrValue},
		{"the least int", cutOf(1, []int{0, math.MinInt}), api.ErrValue},

		{"a row's form ahead of its value", cutOf(1, []int{99, 0, 0}), api.ErrForm},
		{"the first one's value ahead of the second's form", cutOf(1, []int{99, 0}, []int{0}), api.ErrValue},
		{"the second one's form ahead of the third's value", cutOf(1, []int{1, 0}, []int{0}, []int{99, 0}), api.ErrForm},
	}
}

// H1
func TestHalfCheck(t *testing.T) {
	for _, c := range cutCheckCases() {
		if got := half.Check(c.c); got != c.want {
			t.Errorf("%s: half.Check(%v) = %d, want %d", c.what, c.c, got, c.want)
		}
	}
}

// H1, F1 to F3, Z1: each call says first what Check says, and nothing else with it.
func TestHalfCallsSayWhatCheckSays(t *testing.T) {
	for _, c := range cutCheckCases() {
		if c.want == api.OK {
			continue
		}
		if r, e := half.Empty(c.c); r || e != c.want {
			t.Errorf("%s: Empty = %v, %d, want error %d", c.what, r, e, c.want)
		}
		if r, e := half.Corners(c.c); len(r) != 0 || e != c.want {
			t.Errorf("%s: Corners = %v, %d, want error %d", c.what, r, e, c.want)
		}
		if r, e := lp.Farkas(c.c); !isNothing(r) || e != c.want {
			t.Errorf("%s: Farkas = %v, %d, want error %d", c.what, r, e, c.want)
		}
		for _, k := range []int{-1, 0, c.c.Dim - 1, c.c.Dim} {
			if r, e := half.Without(c.c, k); len(r) != 0 || e != c.want {
				t.Errorf("%s: Without %d = %v, %d, want error %d", c.what, k, r, e, c.want)
			}
		}
		for _, goal := range [][]int{nil, {0}, {0, 0}, {1000}} {
			if o, u, e := lp.Best(c.c, goal); o != 0 || u != 0 || e != c.want {
				t.Errorf("%s: Best of %v = %d, %d, %d, want error %d", c.what, goal, o, u, e, c.want)
			}
			if r, e := lp.Shows(c.c, goal); !isNothing(r) || e != c.want {
				t.Errorf("%s: Shows of %v = %v, %d, want error %d", c.what, goal, r, e, c.want)
			}
		}
	}
}

func isNothing(r api.Taken) bool {
	return len(r.Points) == 0 && len(r.Much) == 0 && r.Under == 0
}

// H2
func TestHalfWithoutPlace(t *testing.T) {
	for dim := 1; dim <= api.MaxDim; dim++ {
		row := make([]int, dim+1)
		for i := range row {
			row[i] = 1
		}
		for _, c := range []api.Cut{cutOf(dim), cutOf(dim, row)} {
			for k := -2; k <= dim+1; k++ {
				want := api.ErrPlace
				if k >= 0 && k < dim {
					want = api.OK
				}
				if r, e := half.Without(c, k); e != want || len(r) != 0 {
					t.Errorf("half.Without(%v, %d) = %v, %d, want error %d", c, k, r, e, want)
				}
			}
			for _, k := range []int{math.MinInt, math.MaxInt} {
				if r, e := half.Without(c, k); e != api.ErrPlace || len(r) != 0 {
					t.Errorf("half.Without(%v, %d) = %v, %d", c, k, r, e)
				}
			}
		}
	}
}
