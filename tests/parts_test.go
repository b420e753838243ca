package tests

import (
	"math"
	"slices"
	"testing"

	"facet/api"
	"facet/named"
)

// evenSquare has so many orders, each some times.
func evenSquare(d *die, n, orders, most int) [][]int {
	m := repeat(make([]int, n), n)
	for range orders {
		often := 1 + d.below(most)
		for i, at := range shuffled(d, n) {
			m[i][at] += often
		}
	}
	return m
}

func evenCheckCases() []squareCheckCase {
	return []squareCheckCase{
		{"one number", [][]int{{7}}, api.OK},
		{"nought", [][]int{{0}}, api.OK},
		{"all noughts", repeat(make([]int, 6), 6), api.OK},
		{"the greatest numbers", repeat(slices.Repeat([]int{10000}, 6), 6), api.OK},
		{"the document's", [][]int{{2, 1}, {1, 2}}, api.OK},
		{"nil", nil, api.ErrCount},
		{"none", [][]int{}, api.ErrCount},
		{"a row too many", repeat(make([]int, 7), 7), api.ErrCount},
		{"a row too many, of no form", repeat([]int{-1}, 7), api.ErrCount},
		{"a number too few", [][]int{{1, 1}, {2}}, api.ErrForm},
		{"a number too many", [][]int{{1, 1, 0}, {1, 1}}, api.ErrForm},
		{"one row, two numbers", [][]int{{1, 1}}, api.ErrForm},
		{"two rows, one number", [][]int{{1}, {1}}, api.ErrForm},
		{"a row that is nil", [][]int{{1, 1}, nil}, api.ErrForm},
		{"one row, nil", [][]int{nil}, api.ErrForm},
		{"above", [][]int{{10001}}, api.ErrValue},
		{"above, and even", [][]int{{1, 10001}, {10001, 1}}, api.ErrValue},
		{"below", [][]int{{-1}}, api.ErrValue},
		{"below, and even", [][]int{{2, -1}, {-1, 2}}, api.ErrValue},
		{"as far below as a number may be above", [][]int{{0, -10000}, {-10000, 0}}, api.ErrValue},
		{"below, in the last place", [][]int{{1, 0}, {2, -1}}, api.ErrValue},
		{"the greatest int", [][]int{{1, 1}, {1, math.MaxInt}}, api.ErrValue},
		{"the least int", [][]int{{math.MinInt}}, api.ErrValue},
		{"a row's form ahead of its value", [][]int{{-1}, {1, 1}}, api.ErrForm},
		{"the first one's value ahead of the second's form", [][]int{{1, -1}, {1}}, api.ErrValue},
		{"the first one's form ahead of the second's value", [][]int{{1}, {1, -1}}, api.ErrForm},
		{"a value ahead of sums", [][]int{{5, 1}, {1, -1}}, api.ErrValue},
		{"rows alike, columns not", [][]int{{1, 0}, {1, 0}}, api.ErrForm},
		{"columns alike, rows not", [][]int{{1, 1}, {0, 0}}, api.ErrForm},
		{"one more in one place", [][]int{{3, 1}, {1, 2}}, api.ErrForm},
		{"the last row alone", [][]int{{1, 1, 1}, {1, 1, 1}, {1, 1, 2}}, api.ErrForm},
		{"a middle column alone", [][]int{{1, 2, 0}, {1, 1, 1}, {1, 1, 1}}, api.ErrForm},
	}
}

// Y2
func TestPartsCheck(t *testing.T) {
	for _, c := range evenCheckCases() {
		if got := named.CheckSquare(c.m); got != c.want {
			t.Errorf("%s: named.CheckSquare(%v) = %d, want %d", c.what, c.m, got, c.want)
		}
		orders, many, e := named.Parts(c.m)
		if e != c.want || e != api.OK && (len(orders) != 0 || len(many) != 0) {
			t.Errorf("%s: named.Parts(%v) = %v, %v, %d, want error %d", c.what, c.m, orders, many, e, c.want)
		}
	}
}

// Y2: one number more, anywhere in an even square, is told.
func TestPartsCheckOneMore(t *testing.T) {
	d := die(161)
	for n := 2; n <= 6; n++ {
		m := evenSquare(&d, n, 5, 9)
		for i := range m {
			for j := range m {
				m[i][j]++
				if got := named.CheckSquare(m); got != api.ErrForm {
					t.Errorf("named.CheckSquare(%v) = %d", m, got)
				}
				m[i][j]--
			}
		}
		if got := named.CheckSquare(m); got != api.OK {
			t.Errorf("named.CheckSquare(%v) = %d", m, got)
		}
	}
}

// Y2
func TestParts(t *testing.T) {
	for _, c := range []struct {
		what   string
		m      [][]int
		orders [][]int
		many   []int
	}{
		{"the document's", [][]int{{2, 1}, {1, 2}}, [][]int{{0, 1}, {1, 0}}, []int{2, 1}},
		{"one number", [][]int{{10000}}, [][]int{{0}}, []int{10000}},
		{"nought", [][]int{{0}}, nil, nil},
		{"all noughts", repeat(make([]int, 4), 4), nil, nil},
		{"one order", [][]int{{0, 0, 7}, {7, 0, 0}, {0, 7, 0}}, [][]int{{2, 0, 1}}, []int{7}},
		{"the least of all, not the first", [][]int{{3, 1, 0}, {1, 2, 1}, {0, 1, 3}}, [][]int{{0, 1, 2}, {0, 2, 1}, {1, 0, 2}}, []int{2, 1, 1}},
		{"all alike", repeat([]int{1, 1, 1}, 3), [][]int{{0, 1, 2}, {1, 2, 0}, {2, 0, 1}}, []int{1, 1, 1}},
		{"the first in order, not the one that is there most often", [][]int{{1, 9, 0}, {0, 1, 9}, {9, 0, 1}}, [][]int{{0, 1, 2}, {1, 2, 0}}, []int{1, 9}},
	} {
		orders, many, e := named.Parts(c.m)
		if e != api.OK || !alike(orders, c.orders) || !slices.Equal(many, c.many) {
			t.Errorf("%s: named.Parts(%v) = %v, %v, %d, want %v, %v", c.what, c.m, orders, many, e, c.orders, c.many)
		}
	}
}

// partsByWords goes by Y2: from the first choice on, again and again.
func partsByWords(m [][]int) (orders [][]int, many []int) {
	rest, all := copied(m), ordersOf(len(m))
	slices.SortFunc(all, slices.Compare[[]int])
	leastOf := func(order []int) int {
		least := math.MaxInt
		for i, at := range order {
			least = min(least, rest[i][at])
		}
		return least
	}
	for slices.ContainsFunc(rest, func(row []int) bool { return slices.Max(row) > 0 }) {
		first := all[slices.IndexFunc(all, func(order []int) bool { return leastOf(order) > 0 })]
		often := leastOf(first)
		for i, at := range first {
			rest[i][at] -= often
		}
		orders, many = append(orders, first), append(many, often)
	}
	return orders, many
}

// Y2, and the whole: what has even rows and columns is a sum of orders, of few ones.
func TestPartsAddUp(t *testing.T) {
	d := die(162)
	for round := range 150 {
		n := 1 + round%6
		m := evenSquare(&d, n, d.below(12), []int{1, 3, 800}[round%3])
		wantOrders, wantMany := partsByWords(m)
		orders, many, e := named.Parts(m)
		if e != api.OK || !alike(orders, wantOrders) || !slices.Equal(many, wantMany) {
			t.Errorf("named.Parts(%v) = %v, %v, %d, want %v, %v", m, orders, many, e, wantOrders, wantMany)
			continue
		}
		added := repeat(make([]int, n), n)
		for k, order := range orders {
			for i, at := range order {
				added[i][at] += many[k]
			}
		}
		if !alike(added, m) || len(orders) > (n-1)*(n-1)+1 || len(many) > 0 && slices.Min(many) < 1 {
			t.Errorf("named.Parts(%v) = %v, %v: that is %v", m, orders, many, added)
		}
	}
}

// Z2
func TestPartsLists(t *testing.T) {
	was := [][]int{{3, 1, 0}, {1, 2, 1}, {0, 1, 3}}
	m := roomyLists(was)
	orders, many, e := named.Parts(m)
	more, often, _ := named.Parts(m)
	if e != api.OK || named.CheckSquare(m) != api.OK || !untouchedLists(m, was) || !alike(orders, more) || !slices.Equal(many, often) {
		t.Errorf("named.Parts(%v) = %v, %v, %d, then %v, %v", m, orders, many, e, more, often)
	}
	if !apart(m, orders, more) || !apart(append(slices.Concat(m, orders, more), many, often)...) {
		t.Error("lists share memory")
	}
}
