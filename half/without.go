package half

import (
	"slices"

	"facet/exact"
)

// without is Fourier's and Motzkin's way to take the k-th number out of rows.
func without(rows [][]int, k int) [][]int {
	var out [][]int
	keep := func(row []int) {
		shorter := exact.Primitive(slices.Concat(row[:k], row[k+1:]))
		if !saysNothing(shorter) {
			out = append(out, shorter)
		}
	}
	for _, first := range rows {
		if first[k] == 0 {
			keep(first)
		}
		for _, second := range rows {
			if first[k] > 0 && second[k] < 0 {
				keep(added(-second[k], first, first[k], second))
			}
		}
	}
	return exact.InOrder(out)
}

// added is v times the first row and u times the second.
func added(v int, first []int, u int, second []int) []int {
	row := make([]int, len(first))
	for i := range row {
		row[i] = v*first[i] + u*second[i]
	}
	return row
}

// saysNothing: does a row hold for all x, its a being 0?
func saysNothing(row []int) bool {
	dim := len(row) - 1
	return row[dim] >= 0 && !slices.ContainsFunc(row[:dim], func(v int) bool { return v != 0 })
}
