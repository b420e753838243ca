package wrap

import (
	"slices"

	"facet/exact"
)

// seen is where a point is, if one looks along a flat: the flat is at 0.
type seen [2]int

// rowsThrough are rows that the chosen points meet and no point lies beyond: two at
// most, as a row that turns about a flat of two dimensions less has two ends.
func rowsThrough(chosen, points [][]int) [][]int {
	across := exact.Kernel(exact.Differences(chosen), len(points[0]))
	if len(across) != 2 {
		return nil
	}
	off := seenOff(chosen[0], across, points)
	left, right := slices.MaxFunc(off, turn), slices.MinFunc(off, turn)
	var rows [][]int
	for _, end := range []seen{left, {-right[0], -right[1]}} {
		beyond := func(s seen) bool { return turn(s, end) > 0 }
		if !slices.ContainsFunc(off, beyond) {
			rows = append(rows, rowAt(end, across, chosen[0]))
		}
	}
	return rows
}

// seenOff are the points off the flat through x, as two directions across it see them.
func seenOff(x []int, across, points [][]int) []seen {
	u, v := exact.Product(across[0], x), exact.Product(across[1], x)
	off := make([]seen, 0, len(points))
	for _, y := range points {
		s := seen{exact.Product(across[0], y) - u, exact.Product(across[1], y) - v}
		if s != (seen{}) {
			off = append(off, s)
		}
	}
	return off
}

// turn is above 0, if s lies to the left of the line from 0 to t.
func turn(s, t seen) int { return t[0]*s[1] - t[1]*s[0] }

// rowAt is the row through x beyond which lies what is to the left of an end.
func rowAt(end seen, across [][]int, x []int) []int {
	a := make([]int, len(x))
	for i := range a {
		a[i] = turn(seen{across[0][i], across[1][i]}, end)
	}
	a = exact.Primitive(a)
	return append(a, exact.Product(a, x))
}
