package hull

import (
	"slices"

	"facet/choose"
	"facet/exact"
)

// distinct are the points in order, each once, in fresh memory.
func distinct(points [][]int) [][]int {
	var out [][]int
	for _, x := range points {
		out = append(out, slices.Clone(x))
	}
	return exact.InOrder(out)
}

// rowsAround are the rows of points that don't lie flat, in order: each side has
// points enough to tell its row, so that it is found by one choice of them at least.
func rowsAround(dim int, points [][]int) [][]int {
	var rows [][]int
	for chosen := range choose.Of(len(points), dim) {
		if row, ok := rowThrough(choose.Picked(points, chosen), points); ok {
			rows = append(rows, row)
		}
	}
	return exact.InOrder(rows)
}

// rowThrough is the row that the chosen points meet, if there is one alone and
// no point lies beyond it.
func rowThrough(chosen, points [][]int) ([]int, bool) {
	a, ok := exact.Normal(exact.Differences(chosen), len(chosen))
	if !ok {
		return nil, false
	}
	b := exact.Product(a, chosen[0])
	above := func(x []int) bool { return exact.Product(a, x) > b }
	below := func(x []int) bool { return exact.Product(a, x) < b }
	row := append(a, b)
	if !slices.ContainsFunc(points, above) {
		return row, true
	}
	if !slices.ContainsFunc(points, below) {
		return exact.Negated(row), true
	}
	return nil, false
}

// cornersOf keeps, of points each once, those that are alone in what all the
// rows they meet cut out: any other one lies between points of that.
func cornersOf(points, rows [][]int) [][]int {
	return slices.DeleteFunc(slices.Clone(points), func(x []int) bool {
		return slices.ContainsFunc(points, func(y []int) bool {
			return !slices.Equal(x, y) && meetsAllOf(rows, x, y)
		})
	})
}

// meetsAllOf: does y meet each row that x meets?
func meetsAllOf(rows [][]int, x, y []int) bool {
	return !slices.ContainsFunc(rows, func(row []int) bool {
		return against(row, x) == 0 && against(row, y) != 0
	})
}
