package weyl

import (
	"facet/api"
	"facet/exact"
	"facet/root"
)

// Lengths: how many of the group's turns have each length, from 0 on.
func Lengths(c [][]int) ([]int, api.Errno) {
	degrees, e := Degrees(c)
	if e != api.OK {
		return nil, e
	}
	many := []int{1}
	for _, degree := range degrees {
		many = spread(many, degree)
	}
	return many, api.OK
}

// spread is a polynomial's product with 1 + t + .. + t^(degree - 1), in fresh memory.
func spread(polynomial []int, degree int) []int {
	product := make([]int, len(polynomial)+degree-1)
	for i, v := range polynomial {
		for k := range degree {
			product[i+k] += v
		}
	}
	return product
}

// Degrees of what the group leaves as it is, rising.
func Degrees(c [][]int) ([]int, api.Errno) {
	roots, e := root.Positive(c)
	if e != api.OK {
		return nil, e
	}
	degrees := make([]int, len(c))
	for i := range degrees {
		degrees[i] = 1
	}
	for _, many := range ofHeights(roots) {
		for i := range many {
			degrees[len(c)-1-i]++ // as many are above a height as there are roots of it, the greatest ones
		}
	}
	return degrees, api.OK
}

// ofHeights tells how many roots there are of each height, from 0 on.
func ofHeights(roots [][]int) []int {
	var many []int
	for _, b := range roots {
		height := exact.Total(b)
		for len(many) <= height {
			many = append(many, 0)
		}
		many[height]++
	}
	return many
}
