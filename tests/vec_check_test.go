package tests

import (
	"math"
	"testing"

	"facet/api"
	"facet/vec"
)

type vecCase struct {
	what string
	m    [][]int
	want api.Errno
}

func vecCases() []vecCase {
	const most = api.MaxValue
	repeat := repeat
	return []vecCase{
		{"no list of rows", nil, api.ErrCount},
		{"no row", [][]int{}, api.ErrCount},
		{"one row of one number", [][]int{{7}}, api.OK},
		{"the most rows of the most numbers", repeat([]int{1, 2, 3, 4, 5}, api.MaxPoints), api.OK},
		{"a row too many", repeat([]int{1}, api.MaxPoints+1), api.ErrCount},
		{"a row too many, all of them wrong", repeat([]int{most + 1, 1, 1, 1, 1, 1}, api.MaxPoints+1), api.ErrCount},
		{"far too many rows, all empty", make([][]int, 1000), api.ErrCount},

		{"a row without numbers", [][]int{{}}, api.ErrForm},
		{"a row that is nil", [][]int{nil}, api.ErrForm},
		{"rows without numbers, alike", [][]int{{}, {}}, api.ErrForm},
		{"MaxDim + 1 numbers", [][]int{{1, 2, 3, 4, 5}}, api.OK},
		{"MaxDim + 2 numbers", [][]int{{1, 2, 3, 4, 5, 6}}, api.ErrForm},
		{"a longer row behind", [][]int{{1, 2}, {1, 2, 3}}, api.ErrForm},
		{"a shorter row behind", [][]int{{1, 2}, {1}}, api.ErrForm},
		{"an empty row behind", [][]int{{1, 2}, nil}, api.ErrForm},
		{"the last row alone is longer", append(repeat([]int{1, 2}, 23), []int{1, 2, 3}), api.ErrForm},

		{"numbers at the bound", [][]int{{most, -most}, {-most, most}}, api.OK},
		{"above the bound", [][]int{{0, most + 1}}, api.ErrValue},
		{"below the bound", [][]int{{0, -most - 1}}, api.ErrValue},
		{"beyond the bound in the first place", [][]int{{-most - 1, 0}}, api.ErrValue},
		{"the greatest int", [][]int{{math.MaxInt}}, api.ErrValue},
		{"the least int", [][]int{{math.MinInt}}, api.ErrValue},
		{"next to the least int", [][]int{{math.MinInt + 1}}, api.ErrValue},
		{"the last number of the last row", append(repeat([]int{1, 2}, 23), []int{1, most + 1}), api.ErrValue},

		{"one row: its form is told first", [][]int{{most + 1, 1, 1, 1, 1, 1}}, api.ErrForm},
		{"a later row: its form is told first", [][]int{{1, 2}, {most + 1}}, api.ErrForm},
		{"the first row's value ahead of the second's form", [][]int{{1, most + 1}, {1}}, api.ErrValue},
		{"the second row's value ahead of the third's form", [][]int{{1}, {-most - 1}, {1, 2}}, api.ErrValue},
		{"the second row's form ahead of the third's value", [][]int{{1}, {1, 2}, {most + 1}}, api.ErrForm},
	}
}

// A1
func TestVecCheck(t *testing.T) {
	for _, c := range vecCases() {
		if got := vec.Check(c.m); got != c.want {
			t.Errorf("%s: vec.Check(%v) = %d, want %d", c.what, c.m, got, c.want)
		}
	}
}

// A1, Z1: each call says first what Check says, and nothing else with it.
func TestVecCallsSayWhatCheckSays(t *testing.T) {
	for _, c := range vecCases() {
		if c.want == api.OK {
			continue
		}
		if r, e := vec.Rank(c.m); r != 0 || e != c.want {
			t.Errorf("%s: Rank = %d, %d, want error %d", c.what, r, e, c.want)
		}
		if d, e := vec.Det(c.m); d != 0 || e != c.want {
			t.Errorf("%s: Det = %d, %d, want error %d", c.what, d, e, c.want)
		}
		if n, e := vec.Normal(c.m); len(n) != 0 || e != c.want {
			t.Errorf("%s: Normal = %v, %d, want error %d", c.what, n, e, c.want)
		}
	}
}

// A1: Primitive's list is the only row.
func TestVecPrimitiveSaysWhatCheckSays(t *testing.T) {
	const most = api.MaxValue
	for _, c := range []struct {
		l    []int
		want api.Errno
	}{
		{nil, api.ErrForm},
		{[]int{}, api.ErrForm},
		{[]int{1, 2, 3, 4, 5}, api.OK},
		{[]int{1, 2, 3, 4, 5, 6}, api.ErrForm},
		{make([]int, api.MaxPoints+1), api.ErrForm},
		{[]int{most + 1, 1, 1, 1, 1, 1}, api.ErrForm},
		{[]int{most, -most}, api.OK},
		{[]int{2, most + 1}, api.ErrValue},
		{[]int{2, -most - 1}, api.ErrValue},
		{[]int{math.MinInt}, api.ErrValue},
		{[]int{math.MaxInt}, api.ErrValue},
	} {
		got, e := vec.Primitive(c.l)
		if e != c.want {
			t.Errorf("vec.Primitive(%v): error %d, want %d", c.l, e, c.want)
		}
		if e != api.OK && len(got) != 0 {
			t.Errorf("vec.Primitive(%v) = %v beside error %d", c.l, got, e)
		}
	}
}
