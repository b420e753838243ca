// Package wrap finds the rows and the corners of what lies between points.
//
// It sets no bounds of its own: a caller hands in points that don't lie flat, with
// numbers so small that exact can reckon with what they have more than each other.
package wrap

import (
	"cmp"
	"slices"

	"facet/choose"
	"facet/exact"
)

// Rows are the rows of the points, in order, in fresh memory.
func Rows(points [][]int) [][]int {
	return rowsAround(distinct(points))
}

// Corners are the corners of the points, in order, in fresh memory.
func Corners(points [][]int) [][]int {
	each := distinct(points)
	return cornersOf(each, rowsAround(each))
}

// Against: does a point lie beyond a row (1), meet it (0), or hold with room to spare (-1)?
func Against(row, x []int) int {
	return cmp.Compare(exact.Product(row[:len(x)], x), row[len(x)])
}

// distinct are the points in order, each once, in fresh memory.
func distinct(points [][]int) [][]int {
	var out [][]int
	for _, x := range points {
		out = append(out, slices.Clone(x))
	}
	return exact.InOrder(out)
}

// rowsAround goes by the flats through one point less than a row needs: each side has
// an edge (or what is an edge in more dimensions) about which its row can turn no further.
func rowsAround(points [][]int) [][]int {
	dim := len(points[0])
	if dim == 1 {
		return [][]int{{-1, -points[0][0]}, {1, points[len(points)-1][0]}}
	}
	var rows [][]int
	for chosen := range choose.Of(len(points), dim-1) {
		rows = append(rows, rowsThrough(choose.Picked(points, chosen), points)...)
	}
	return exact.InOrder(rows)
}

// cornersOf keeps, of points each once, those that are alone in what all the
// rows they meet cut out: any other one lies between points of that.
func cornersOf(points, rows [][]int) [][]int {
	return slices.DeleteFunc(slices.Clone(points), func(x []int) bool {
		return slices.ContainsFunc(points, func(y []int) bool {
			return !slices.Equal(x, y) && meetsAllOf(rows, x, y)
		})
	})
}

// meetsAllOf: does y meet each row that x meets?
func meetsAllOf(rows [][]int, x, y []int) bool {
	return !slices.ContainsFunc(rows, func(row []int) bool {
		return Against(row, x) == 0 && Against(row, y) != 0
	})
}
