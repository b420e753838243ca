// Package hull: polytopes, by their corners and by their rows: see the document's chapter.
package hull

import (
	"facet/api"
	"facet/check"
	"facet/exact"
	"facet/wrap"
)

// Check says whether a polytope may be.
func Check(p api.Polytope) api.Errno {
	if p.Dim < 1 || p.Dim > api.MaxDim {
		return api.ErrDim
	}
	if len(p.Points) < 1 || len(p.Points) > api.MaxPoints {
		return api.ErrCount
	}
	for _, x := range p.Points {
		if e := check.List(x, p.Dim, api.MaxCoord); e != api.OK {
			return e
		}
	}
	if exact.Rank(exact.Differences(p.Points), p.Dim) < p.Dim {
		return api.ErrFlat
	}
	return api.OK
}

// Rows are the rows of a polytope, in order.
func Rows(p api.Polytope) ([][]int, api.Errno) {
	if e := Check(p); e != api.OK {
		return nil, e
	}
	return wrap.Rows(p.Points), api.OK
}

// Corners are the corners of a polytope, in order.
func Corners(p api.Polytope) ([][]int, api.Errno) {
	if e := Check(p); e != api.OK {
		return nil, e
	}
	return wrap.Corners(p.Points), api.OK
}

// Where: is a point outside (1), on a row (0), or inside (-1)?
func Where(p api.Polytope, x []int) (int, api.Errno) {
	if e := Check(p); e != api.OK {
		return 0, e
	}
	if e := check.List(x, p.Dim, api.MaxCoord); e != api.OK {
		return 0, e
	}
	place := -1
	for _, row := range wrap.Rows(p.Points) {
		place = max(place, wrap.Against(row, x))
	}
	return place, api.OK
}

// Cyclic is the polytope of points (t, t^2, ..): t from -(n / 2) on.
func Cyclic(dim, n int) (api.Polytope, api.Errno) {
	if dim < 1 || dim > api.MaxDim {
		return api.Polytope{}, api.ErrDim
	}
	if n <= dim || n > api.MaxPoints {
		return api.Polytope{}, api.ErrCount
	}
	p := api.Polytope{Dim: dim}
	for i := range n {
		x := powers(i-n/2, dim)
		if exact.AnyBeyond(x, api.MaxCoord) {
			return api.Polytope{}, api.ErrLimit
		}
		p.Points = append(p.Points, x)
	}
	return p, api.OK
}

func powers(t, many int) []int {
	x := make([]int, many)
	power := 1
	for i := range many {
		power *= t
		x[i] = power
	}
	return x
}
