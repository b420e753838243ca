package tests

import (
	"math"
	"slices"
	"testing"

	"facet/api"
	"facet/tropic"
)

type squareCheckCase struct {
	what string
	m    [][]int
	want api.Errno
}

func squareCheckCases() []squareCheckCase {
	return []squareCheckCase{
		{"one number", [][]int{{7}}, api.OK},
		{"the most rows", repeat(make([]int, 6), 6), api.OK},
		{"the bounds", [][]int{{10000, -10000}, {-10000, 10000}}, api.OK},
		{"nil", nil, api.ErrCount},
		{"none", [][]int{}, api.ErrCount},
		{"a row too many", repeat(make([]int, 7), 7), api.ErrCount},
		{"a row too many, of no form", repeat([]int{10001}, 7), api.ErrCount},
		{"a number too few", [][]int{{1, 2}, {1}}, api.ErrForm},
		{"a number too many", [][]int{{1, 2, 3}, {1, 2}}, api.ErrForm},
		{"one row, two numbers", [][]int{{1, 2}}, api.ErrForm},
		{"two rows, one number", [][]int{{1}, {2}}, api.ErrForm},
		{"a row that is nil", [][]int{{1, 2}, nil}, api.ErrForm},
		{"one row, nil", [][]int{nil}, api.ErrForm},
		{"above", [][]int{{1, 10001}, {1, 1}}, api.ErrValue},
		{"below", [][]int{{1, 1}, {-10001, 1}}, api.ErrValue},
		{"the greatest int", [][]int{{1, 1}, {1, math.MaxInt}}, api.ErrValue},
		{"the least int", [][]int{{math.MinInt}}, api.ErrValue},
		{"a row's form ahead of its value", [][]int{{10001}, {1, 1}}, api.ErrForm},
		{"the first one's value ahead of the second's form", [][]int{{1, 10001}, {1}}, api.ErrValue},
		{"the first one's form ahead of the second's value", [][]int{{1}, {1, 10001}}, api.ErrForm},
	}
}

// N2
func TestSquareCheck(t *testing.T) {
	for _, c := range squareCheckCases() {
		if got := tropic.CheckSquare(c.m); got != c.want {
			t.Errorf("%s: tropic.CheckSquare(%v) = %d, want %d", c.what, c.m, got, c.want)
		}
		sum, choice, e := tropic.Least(c.m)
		if e != c.want || e != api.OK && (sum != 0 || len(choice) != 0) {
			t.Errorf("%s: tropic.Least(%v) = %d, %v, %d, want error %d", c.what, c.m, sum, choice, e, c.want)
		}
		rows, columns, e := tropic.Prices(c.m)
		if e != c.want || e != api.OK && (len(rows) != 0 || len(columns) != 0) {
			t.Errorf("%s: tropic.Prices(%v) = %v, %v, %d, want error %d", c.what, c.m, rows, columns, e, c.want)
		}
	}
}

// N2
func TestSquareLeast(t *testing.T) {
	for _, c := range []struct {
		what string
		m    [][]int
		sum  int
		want []int
	}{
		{"the document's", [][]int{{5, 1, 3}, {2, 2, 2}, {9, 0, 1}}, 4, []int{1, 0, 2}},
		{"the document's of Prices", [][]int{{1, 2}, {3, 5}}, 5, []int{1, 0}},
		{"one number", [][]int{{-7}}, -7, []int{0}},
		{"all alike: the first in order", repeat(make([]int, 6), 6), 0, []int{0, 1, 2, 3, 4, 5}},
		{"two alike", [][]int{{1, 2}, {2, 3}}, 4, []int{0, 1}},
		{"of several the first, not the last", [][]int{{5, 0, 0}, {0, 5, 0}, {0, 0, 5}}, 0, []int{1, 2, 0}},
		{"the first row's least is not it", [][]int{{0, 1}, {0, 9}}, 1, []int{1, 0}},
		{"the greatest numbers", repeat(slices.Repeat([]int{10000}, 6), 6), 60000, []int{0, 1, 2, 3, 4, 5}},
		{"the least numbers", repeat(slices.Repeat([]int{-10000}, 6), 6), -60000, []int{0, 1, 2, 3, 4, 5}},
		{"against the order", [][]int{{9, 9, 9, 9, 9, 1}, {9, 9, 9, 9, 1, 9}, {9, 9, 9, 1, 9, 9}, {9, 9, 1, 9, 9, 9}, {9, 1, 9, 9, 9, 9}, {1, 9, 9, 9, 9, 9}}, 6, []int{5, 4, 3, 2, 1, 0}},
	} {
		if sum, choice, e := tropic.Least(c.m); e != api.OK || sum != c.sum || !slices.Equal(choice, c.want) {
			t.Errorf("%s: tropic.Least(%v) = %d, %v, %d, want %d, %v", c.what, c.m, sum, choice, e, c.sum, c.want)
		}
	}
}

// leastBelow is the least choice of the rows from one on by columns that are free, and of several the first.
func leastBelow(m [][]int, from, free int) (int, []int) {
	if from == len(m) {
		return 0, nil
	}
	sum, choice := math.MaxInt, []int(nil)
	for j, v := range m[from] {
		if free>>j&1 == 0 {
			continue
		}
		if s, rest := leastBelow(m, from+1, free&^(1<<j)); v+s < sum {
			sum, choice = v+s, append([]int{j}, rest...)
		}
	}
	return sum, choice
}

// priced: are these prices of m, so that all are together sum?
func priced(m [][]int, rows, columns []int, sum int) bool {
	ok, all := len(rows) == len(m) && len(columns) == len(m), 0
	for _, v := range slices.Concat(rows, columns) {
		ok = ok && v >= -1_000_000_000 && v <= 1_000_000_000
		all += v
	}
	for i := range m {
		for j := range m {
			ok = ok && m[i][j] >= rows[i]+columns[j]
		}
	}
	return ok && all == sum
}

// The helper itself: each thing that may not be is seen.
func TestPriced(t *testing.T) {
	m := [][]int{{1, 2}, {3, 5}}
	if !priced(m, []int{2, 4}, []int{-1, 0}, 5) || !priced(m, []int{1, 3}, []int{0, 1}, 5) {
		t.Error("these are prices")
	}
	for _, c := range []struct {
		rows, columns []int
		sum           int
	}{
		{[]int{2, 4}, []int{-1, 0}, 6},
		{[]int{1, 4}, []int{0, 0}, 5},
		{[]int{2, 4, 0}, []int{-1, 0}, 5},
		{[]int{2, 4}, nil, 5},
		{[]int{2_000_000_002, 2_000_000_004}, []int{-2_000_000_001, -2_000_000_000}, 5},
	} {
		if priced(m, c.rows, c.columns, c.sum) {
			t.Errorf("%v are no prices", c)
		}
	}
}

// someSquares have numbers that are small, great, nearly sums of two, or just two.
func someSquares(seed die) [][][]int {
	d := seed
	var out [][][]int
	for round := range 240 {
		n := 1 + d.below(api.MaxSide)
		m := d.lists(n, n, []int{1, 5, 100, api.MaxEntry}[round%4])
		if round%3 == 0 {
			rows, columns := d.list(n, 4000), d.list(n, 4000)
			for i := range m {
				for j := range m {
					m[i][j] = rows[i] + columns[j] + d.below(3)
				}
			}
		}
		if round%7 == 0 {
			for i := range m {
				for j := range m {
					m[i][j] = api.MaxEntry * (1 - 2*d.below(2))
				}
			}
		}
		out = append(out, m)
	}
	return out
}

// N2, and the whole: the least choice has prices.
func TestSquareLeastHasPrices(t *testing.T) {
	for _, m := range someSquares(144) {
		wantSum, want := leastBelow(m, 0, 1<<len(m)-1)
		sum, choice, e := tropic.Least(m)
		if e != api.OK || sum != wantSum || !slices.Equal(choice, want) {
			t.Errorf("tropic.Least(%v) = %d, %v, %d, want %d, %v", m, sum, choice, e, wantSum, want)
		}
		if rows, columns, e := tropic.Prices(m); e != api.OK || !priced(m, rows, columns, wantSum) {
			t.Errorf("tropic.Prices(%v) = %v, %v, %d: not what asks %d", m, rows, columns, e, wantSum)
		}
	}
}

// Z2
func TestSquareLists(t *testing.T) {
	was := [][]int{{5, 1, 3}, {2, 2, 2}, {9, 0, 1}}
	m := roomyLists(was)
	_, choice, e := tropic.Least(m)
	_, second, _ := tropic.Least(m)
	rows, columns, f := tropic.Prices(m)
	moreRows, moreColumns, _ := tropic.Prices(m)
	if e != api.OK || f != api.OK || tropic.CheckSquare(m) != api.OK || !untouchedLists(m, was) {
		t.Errorf("of %v: %d, %d", m, e, f)
	}
	if !slices.Equal(choice, second) || !slices.Equal(rows, moreRows) || !slices.Equal(columns, moreColumns) {
		t.Errorf("of %v: %v and %v, %v and %v, %v and %v", m, choice, second, rows, moreRows, columns, moreColumns)
	}
	if !apart(append(slices.Clone(m), choice, second, rows, columns, moreRows, moreColumns)...) {
		t.Error("lists share memory")
	}
}
