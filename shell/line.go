package shell

import (
	"cmp"
	"slices"

	"facet/body"
	"facet/exact"
	"facet/set"
)

// side has, beside its corners, its height: over by under, times how many corners the
// polytope has. That is the same for all sides, so it doesn't say which is higher.
type side struct {
	corners     set.Set
	over, under int
}

// ordered are the sides by their heights, the greatest first.
func ordered(b body.Body, way []int) []side {
	sum := make([]int, b.Dim)
	for _, x := range b.Corners {
		for i, v := range x {
			sum[i] += v
		}
	}
	var out []side
	for i, row := range b.Rows {
		a, most := row[:b.Dim], row[b.Dim]
		under := most*len(b.Corners) - exact.Product(a, sum)
		out = append(out, side{b.Sides[i], exact.Product(a, way), under})
	}
	slices.SortFunc(out, func(s, t side) int { return higher(t, s) })
	return out
}

// higher is above 0, if s is higher than t; the middle is inside, so under is above 0.
func higher(s, t side) int {
	return cmp.Compare(s.over*t.under, t.over*s.under)
}
