package plane

import (
	"facet/api"
	"facet/exact"
	"facet/lp"
)

// grown are the texts of such signs that places have, in order: they grow plane by
// plane, each by the signs that the next plane has there.
func grown(dim int, planes [][]int, signs string) []string {
	all := []string{""}
	for _, p := range planes {
		var longer []string
		for _, text := range all {
			meets := meeting(closed(dim, planes, text), p)
			for _, sign := range signs {
				if meets(sign) {
					longer = append(longer, text+string(sign))
				}
			}
		}
		all = longer
	}
	return all
}

// closed is the cut of all places that have these signs, or are next to such.
func closed(dim int, planes [][]int, text string) api.Cut {
	c := api.Cut{Dim: dim}
	for i, sign := range text {
		if sign != '+' {
			c.Rows = append(c.Rows, planes[i])
		}
		if sign != '-' {
			c.Rows = append(c.Rows, exact.Negated(planes[i]))
		}
	}
	return c
}

// meeting tells which signs a plane has within a cut, the cut's edge left out: what is
// above the plane is so away from the edge, too; and away from it the plane is met just
// if there is something on both its sides, or on neither.
func meeting(c api.Cut, plane []int) func(sign rune) bool {
	above, below := goesAbove(c, plane), goesAbove(c, exact.Negated(plane))
	return func(sign rune) bool {
		switch sign {
		case '+':
			return above
		case '-':
			return below
		}
		return above == below
	}
}

func goesAbove(c api.Cut, plane []int) bool {
	over, under, e := lp.Best(c, plane[:c.Dim])
	return e == api.ErrOpen || over > plane[c.Dim]*under
}
