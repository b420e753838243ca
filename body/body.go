// Package body looks at a polytope by its corners' numbers.
package body

import (
	"facet/api"
	"facet/exact"
	"facet/hull"
	"facet/set"
)

// Body is a polytope whose corners have numbers, from 0 on, as hull.Corners tells them.
type Body struct {
	Dim           int
	Corners, Rows [][]int
	Sides         []set.Set // of each row the corners that meet it
}

// Of is the body of a polytope, or what hull.Check says.
func Of(p api.Polytope) (Body, api.Errno) {
	rows, e := hull.Rows(p)
	if e != api.OK {
		return Body{}, e
	}
	corners, e := hull.Corners(p)
	if e != api.OK {
		return Body{}, e
	}
	b := Body{Dim: p.Dim, Corners: corners, Rows: rows}
	for _, row := range rows {
		b.Sides = append(b.Sides, metBy(row, corners))
	}
	return b, api.OK
}

// All are all corners.
func (b Body) All() set.Set { return 1<<len(b.Corners) - 1 }

func metBy(row []int, corners [][]int) set.Set {
	var met []int
	for i, x := range corners {
		if exact.Product(row[:len(x)], x) == row[len(x)] {
			met = append(met, i)
		}
	}
	return set.Of(met)
}
