package half

import (
	"slices"

	"facet/api"
	"facet/choose"
	"facet/cone"
	"facet/exact"
)

// isOpen goes by what rows say together: a cut that is not empty has an end in a
// direction just if they say how far one may go there.
func isOpen(c api.Cut) bool {
	for i := range c.Dim {
		ahead := make([]int, c.Dim)
		ahead[i] = 1
		if !cone.Reaches(c.Rows, ahead) || !cone.Reaches(c.Rows, exact.Negated(ahead)) {
			return true
		}
	}
	return false
}

// corners of a cut that has an end: each is the one place at which some rows are met.
func corners(c api.Cut) [][]int {
	var out [][]int
	for chosen := range choose.Of(len(c.Rows), c.Dim) {
		place, ok := meeting(choose.Picked(c.Rows, chosen), c.Dim)
		if ok && isIn(c, place) {
			out = append(out, place)
		}
	}
	return exact.InOrder(out)
}

// isIn: do all rows hold at the place x by w?
func isIn(c api.Cut, place []int) bool {
	x, w := place[:c.Dim], place[c.Dim]
	return !slices.ContainsFunc(c.Rows, func(row []int) bool {
		return exact.Product(row[:c.Dim], x) > row[c.Dim]*w
	})
}

// meeting is x, w of the one place x by w at which Dim rows are met. A Normal has
// a x + b w = 0, where a x = b w is asked for, so that w is of the other sign.
func meeting(rows [][]int, dim int) ([]int, bool) {
	place, ok := exact.Normal(rows, dim+1)
	if !ok || place[dim] == 0 {
		return nil, false
	}
	if place[dim] > 0 {
		place = exact.Negated(place)
	}
	place[dim] = -place[dim]
	return place, true
}
