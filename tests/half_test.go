package tests

import (
	"slices"
	"testing"

	"facet/api"
	"facet/half"
)

// box has rows that hold from -low to high in each direction.
func box(dim, low, high int) api.Cut {
	c := api.Cut{Dim: dim}
	for i := range dim {
		up, down := make([]int, dim+1), make([]int, dim+1)
		up[i], up[dim] = 1, high
		down[i], down[dim] = -1, low
		c.Rows = append(c.Rows, up, down)
	}
	return c
}

// with has more rows behind those of c.
func with(c api.Cut, rows ...[]int) api.Cut {
	return api.Cut{Dim: c.Dim, Rows: slices.Concat(c.Rows, rows)}
}

type cutCase struct {
	what    string
	c       api.Cut
	e       api.Errno // of Corners
	corners [][]int
}

func cutCases() []cutCase {
	return []cutCase{
		{"no row", cutOf(1), api.ErrOpen, nil},
		{"no row in four dimensions", cutOf(4), api.ErrOpen, nil},
		{"a row that always holds", cutOf(2, []int{0, 0, 0}), api.ErrOpen, nil},
		{"a row that always holds, with room", cutOf(2, []int{0, 0, 3}), api.ErrOpen, nil},
		{"a row that never holds", cutOf(2, []int{0, 0, -1}), api.ErrNone, nil},
		{"a row that never holds in one dimension", cutOf(1, []int{0, -20}), api.ErrNone, nil},
		{"a box with a row that never holds", with(box(3, 1, 1), []int{0, 0, 0, -3}), api.ErrNone, nil},
		{"a box with rows that always hold", with(box(1, 1, 2), []int{0, 0}, []int{0, 20}), api.OK, [][]int{{-1, 1}, {2, 1}}},

		{"a half line", cutOf(1, []int{3, 5}), api.ErrOpen, nil},
		{"the other half line", cutOf(1, []int{-3, 5}), api.ErrOpen, nil},
		{"a segment by quotients", cutOf(1, []int{3, 5}, []int{-4, 6}), api.OK, [][]int{{-3, 2}, {5, 3}}},
		{"one place of the line", cutOf(1, []int{2, 3}, []int{-4, -6}), api.OK, [][]int{{3, 2}}},
		{"the place 0", cutOf(1, []int{20, 0}, []int{-7, 0}), api.OK, [][]int{{0, 1}}},
		{"next to each other, none of the line", cutOf(1, []int{20, 19}, []int{-19, -19}), api.ErrNone, nil},
		{"rows twice, and such as say less", cutOf(1, []int{1, 2}, []int{1, 2}, []int{2, 4}, []int{1, 9}, []int{-1, 0}, []int{-5, 1}),
			api.OK, [][]int{{0, 1}, {2, 1}}},

		{"the rectangle of the examples", cutOf(2, []int{1, 0, 3}, []int{-1, 0, 0}, []int{0, 1, 2}, []int{0, -1, 0}),
			api.OK, [][]int{{0, 0, 1}, {0, 2, 1}, {3, 0, 1}, {3, 2, 1}}},
		{"two rows of it", cutOf(2, []int{1, 0, 3}, []int{-1, 0, 0}), api.ErrOpen, nil},
		{"a half plane", cutOf(2, []int{1, 1, -3}), api.ErrOpen, nil},
		{"a strip", cutOf(2, []int{1, 2, 3}, []int{-1, -2, 4}), api.ErrOpen, nil},
		{"a strip that is one line", cutOf(2, []int{1, 2, 3}, []int{-1, -2, -3}), api.ErrOpen, nil},
		{"a strip that is none", cutOf(2, []int{1, 2, 3}, []int{-1, -2, -4}), api.ErrNone, nil},
		{"a corner that goes on", cutOf(2, []int{-1, 0, 0}, []int{0, -1, 0}), api.ErrOpen, nil},
		{"a cone that opens by a hair", cutOf(2, []int{20, -19, 0}, []int{-19, 18, 0}, []int{-1, 0, 0}), api.ErrOpen, nil},
		{"a half strip", cutOf(2, []int{1, 0, 1}, []int{-1, 0, 1}, []int{0, -1, 0}), api.ErrOpen, nil},
		{"three rows that leave nothing", cutOf(2, []int{1, 0, 0}, []int{0, 1, 0}, []int{-1, -1, -1}), api.ErrNone, nil},
		{"three rows that leave one place", cutOf(2, []int{1, 0, 0}, []int{0, 1, 0}, []int{-1, -1, 0}), api.OK, [][]int{{0, 0, 1}}},
		{"one place, by quotients", cutOf(2, []int{2, 0, 1}, []int{-2, 0, -1}, []int{0, 3, -2}, []int{0, -3, 2}),
			api.OK, [][]int{{3, -4, 6}}},
		{"a segment in the plane", cutOf(2, []int{1, 1, 1}, []int{-1, -1, -1}, []int{-1, 0, 0}, []int{0, -1, 0}),
			api.OK, [][]int{{0, 1, 1}, {1, 0, 1}}},
		{"a triangle whose corners are quotients", cutOf(2, []int{-2, 0, -1}, []int{0, -3, -1}, []int{1, 1, 2}),
			api.OK, [][]int{{1, 3, 2}, {3, 2, 6}, {5, 1, 3}}},
		{"lists are in order by their numbers, not by quotients", cutOf(1, []int{7, 2}, []int{-1, 0}, []int{0, 0}),
			api.OK, [][]int{{0, 1}, {2, 7}}},
		{"a great quotient is told ahead of a whole number", cutOf(1, []int{-2, -3}, []int{1, 2}),
			api.OK, [][]int{{2, 1}, {3, 2}}},
		{"three rows through one corner", with(box(2, 0, 2), []int{1, 1, 4}, []int{1, 2, 6}, []int{-1, -1, 0}),
			api.OK, [][]int{{0, 0, 1}, {0, 2, 1}, {2, 0, 1}, {2, 2, 1}}},

		{"a flat square in space", with(box(3, 0, 1), []int{0, 0, 1, 0}),
			api.OK, [][]int{{0, 0, 0, 1}, {0, 1, 0, 1}, {1, 0, 0, 1}, {1, 1, 0, 1}}},
		{"a pipe", cutOf(3, []int{1, 0, 0, 1}, []int{-1, 0, 0, 1}, []int{0, 1, 0, 1}, []int{0, -1, 0, 1}), api.ErrOpen, nil},
		{"a roof", cutOf(3, []int{-1, 0, 1, 0}, []int{0, -1, 1, 0}, []int{0, 0, -1, 0}, []int{0, 1, 1, 2}, []int{1, 0, 1, 2}),
			api.OK, [][]int{{0, 0, 0, 1}, {0, 2, 0, 1}, {1, 1, 1, 1}, {2, 0, 0, 1}, {2, 2, 0, 1}}},
		{"a simplex of four dimensions", cutOf(4, []int{-1, 0, 0, 0, 0}, []int{0, -1, 0, 0, 0}, []int{0, 0, -1, 0, 0}, []int{0, 0, 0, -1, 0}, []int{20, 19, 18, 17, 3}),
			api.OK, [][]int{{0, 0, 0, 0, 1}, {0, 0, 0, 3, 17}, {0, 0, 1, 0, 6}, {0, 3, 0, 0, 19}, {3, 0, 0, 0, 20}}},
		{"a simplex that misses a row", cutOf(4, []int{-1, 0, 0, 0, 0}, []int{0, -1, 0, 0, 0}, []int{0, 0, -1, 0, 0}, []int{20, 19, 18, 17, 3}),
			api.ErrOpen, nil},
		{"five rows that leave nothing", cutOf(4, []int{1, 0, 0, 0, 0}, []int{0, 1, 0, 0, 0}, []int{0, 0, 1, 0, 0}, []int{0, 0, 0, 1, 0}, []int{-1, -1, -1, -1, -1}),
			api.ErrNone, nil},
		{"five rows that leave one place", cutOf(4, []int{1, 0, 0, 0, 1}, []int{0, 1, 0, 0, 1}, []int{0, 0, 1, 0, 1}, []int{0, 0, 0, 1, 1}, []int{-1, -1, -1, -1, -4}),
			api.OK, [][]int{{1, 1, 1, 1, 1}}},
	}
}

// H1, H3
func TestHalfEmptyAndCorners(t *testing.T) {
	for _, c := range cutCases() {
		if got, e := half.Empty(c.c); e != api.OK || got != (c.e == api.ErrNone) {
			t.Errorf("%s: Empty = %v, %d", c.what, got, e)
		}
		if got, e := half.Corners(c.c); e != c.e || !alike(got, c.corners) {
			t.Errorf("%s: Corners = %v, %d, want %v, %d", c.what, got, e, c.corners, c.e)
		}
	}
}

// H3: as many corners as there are at the most rows and the greatest dimension.
func TestHalfCornersOfManyRows(t *testing.T) {
	cube := with(box(4, 20, 20), []int{1, 0, 0, 0, 20}, []int{0, 0, 0, 0, 0}, []int{1, 1, 1, 1, 20}, []int{-1, -1, -1, -1, 20})
	if len(cube.Rows) != api.MaxRows {
		t.Fatalf("%d rows", len(cube.Rows))
	}
	got, e := half.Corners(cube)
	// The 6 corners of the box whose sum is 0 stay. The 4 whose sum is 40 are cut off, each
	// on 3 edges to such that stay, and the 4 whose sum is -40, too.
	want := 6 + 4*3 + 4*3
	if e != api.OK || len(got) != want {
		t.Errorf("%d corners, %d, want %d: %v", len(got), e, want, got)
	}
}

// H3: a box that misses one row has no end there, and nowhere else.
func TestHalfCornersOpenInOneDirection(t *testing.T) {
	for dim := 1; dim <= api.MaxDim; dim++ {
		whole := box(dim, 3, 5)
		if corners, e := half.Corners(whole); e != api.OK || len(corners) != 1<<dim {
			t.Errorf("half.Corners(%v) = %v, %d", whole, corners, e)
		}
		for i := range whole.Rows {
			c := cutOf(dim, slices.Delete(copied(whole.Rows), i, i+1)...)
			if corners, e := half.Corners(c); e != api.ErrOpen || len(corners) != 0 {
				t.Errorf("half.Corners(%v) = %v, %d", c, corners, e)
			}
		}
		for i := range dim {
			c := cutOf(dim, slices.Delete(copied(whole.Rows), 2*i, 2*i+2)...)
			if corners, e := half.Corners(c); e != api.ErrOpen || len(corners) != 0 {
				t.Errorf("half.Corners(%v) = %v, %d", c, corners, e)
			}
		}
	}
}

type withoutCase struct {
	what string
	c    api.Cut
	k    int
	want [][]int
}

func withoutCases() []withoutCase {
	return []withoutCase{
		{"the example", cutOf(2, []int{1, 1, 4}, []int{-1, 2, 2}, []int{0, -1, 0}), 0, [][]int{{-1, 0}, {1, 2}}},
		{"no row", cutOf(2), 0, nil},
		{"a row that has 0 there is lowered, too", cutOf(2, []int{0, 6, 4}), 0, [][]int{{3, 2}}},
		{"b counts for what they have in common", cutOf(2, []int{4, 0, 2}), 1, [][]int{{2, 1}}},
		{"b alone is not divided", cutOf(2, []int{4, 0, 3}), 1, [][]int{{4, 3}}},
		{"a row above 0 alone says nothing", cutOf(2, []int{1, 3, 2}, []int{5, 1, 2}), 0, nil},
		{"a row below 0 alone says nothing", cutOf(2, []int{-1, 3, 2}, []int{-5, 1, 2}), 0, nil},
		{"v times the first, u times the second", cutOf(2, []int{2, 1, 7}, []int{-3, 5, -1}), 0, [][]int{{13, 19}}},
		{"the row below 0 stands first", cutOf(2, []int{-3, 5, -1}, []int{2, 1, 7}), 0, [][]int{{13, 19}}},
		{"the last place", cutOf(2, []int{1, 2, 7}, []int{5, -3, -1}), 1, [][]int{{13, 19}}},
		{"the place between", cutOf(3, []int{1, 2, 3, 4}, []int{5, -6, 7, 8}, []int{9, 0, 9, 18}), 1, [][]int{{1, 1, 2}, {2, 4, 5}}},
		{"each two of them", cutOf(2, []int{1, 1, 1}, []int{1, 2, 1}, []int{-1, 4, 1}, []int{-1, 8, 1}), 0,
			[][]int{{3, 1}, {5, 1}, {5, 2}, {9, 2}}},
		{"each once", cutOf(2, []int{1, 1, 1}, []int{2, 2, 2}, []int{-1, 1, 1}, []int{0, 1, 1}, []int{0, 3, 3}), 0, [][]int{{1, 1}}},
		{"rows that say less stay", cutOf(2, []int{0, 1, 1}, []int{0, 1, 2}, []int{0, 2, 1}), 0, [][]int{{1, 1}, {1, 2}, {2, 1}}},
		{"a row of noughts is left out", cutOf(2, []int{0, 0, 0}, []int{0, 1, 0}), 0, [][]int{{1, 0}}},
		{"a of 0, b above 0 is left out", cutOf(2, []int{0, 0, 5}, []int{0, -1, 5}), 0, [][]int{{-1, 5}}},
		{"a of 0, b below 0 stays", cutOf(2, []int{0, 0, -5}, []int{0, 1, 5}), 0, [][]int{{0, -1}, {1, 5}}},
		{"two rows add up to noughts", cutOf(2, []int{1, 2, 3}, []int{-1, -2, -3}), 0, nil},
		{"two rows add up to b above 0", cutOf(2, []int{1, 2, 3}, []int{-1, -2, 1}), 1, nil},
		{"two rows add up to b below 0", cutOf(2, []int{1, 2, 3}, []int{-1, -2, -7}), 1, [][]int{{0, -1}}},
		{"it goes on to be empty", cutOf(3, []int{0, 1, 0, -1}, []int{0, -1, 0, 0}), 0, [][]int{{-1, 0, 0}, {1, 0, -1}}},
		{"one dimension, with room", cutOf(1, []int{2, 3}, []int{-1, 4}), 0, nil},
		{"one dimension, one place", cutOf(1, []int{2, 4}, []int{-1, -2}), 0, nil},
		{"one dimension, empty", cutOf(1, []int{2, 3}, []int{-1, -4}, []int{-1, -5}), 0, [][]int{{-1}}},
		{"one dimension, a row that never holds", cutOf(1, []int{0, -7}), 0, [][]int{{-1}}},
		{"one dimension, rows that always hold", cutOf(1, []int{0, 7}, []int{0, 0}), 0, nil},
		{"numbers at the bound", cutOf(2, []int{20, 19, 20}, []int{-19, 20, 20}, []int{-20, -20, -20}), 0,
			[][]int{{-1, 0}, {761, 780}}},
		{"the greatest there are", cutOf(2, []int{20, 20, -20}, []int{-19, 20, 20}), 0, [][]int{{39, 1}}},
		{"four dimensions", cutOf(4, []int{1, 0, 0, 20, 1}, []int{0, -1, 0, -20, 2}, []int{0, 0, 0, 1, 0}), 3,
			[][]int{{0, -1, 0, 2}, {1, -1, 0, 3}}},
	}
}

// H2
func TestHalfWithout(t *testing.T) {
	for _, c := range withoutCases() {
		if got, e := half.Without(c.c, c.k); e != api.OK || !alike(got, c.want) {
			t.Errorf("%s: half.Without(%v, %d) = %v, %d, want %v", c.what, c.c, c.k, got, e, c.want)
		}
	}
}

// Z2: nothing is written into, nothing behind it is read, nothing is shared.
func TestHalfListsStayAsTheyAre(t *testing.T) {
	rows := [][]int{{-1, 0, 0}, {0, 2, 4}, {0, 2, 4}, {0, 4, 8}, {0, -1, 0}, {1, 0, 3}, {0, 0, 0}, {1, 1, 20}}
	c := api.Cut{Dim: 2, Rows: roomyLists(rows)}
	inner, outer := slices.Clone(c.Rows), [][][]int{c.Rows}
	for range 2 {
		if e := half.Check(c); e != api.OK {
			t.Errorf("Check = %d", e)
		}
		if empty, e := half.Empty(c); empty || e != api.OK {
			t.Errorf("Empty = %v, %d", empty, e)
		}
		first, e := half.Without(c, 0)
		last, f := half.Without(c, 1)
		corners, g := half.Corners(c)
		if e != api.OK || f != api.OK || g != api.OK || len(first) < 2 || len(last) < 2 || len(corners) != 4 {
			t.Errorf("%v, %v, %v; errors %d, %d, %d", first, last, corners, e, f, g)
		}
		inner = slices.Concat(inner, first, last, corners)
		outer = append(outer, first, last, corners)
	}
	if !untouchedLists(c.Rows, rows) {
		t.Error("what was handed in is not as it was")
	}
	if !apart(inner...) || !apart(outer...) {
		t.Error("two lists share memory")
	}
}
