package house

import (
	"facet/api"
	"facet/count"
	"facet/face"
	"facet/hull"
	"facet/named"
	"facet/polar"
	"facet/volume"
)

// putPolytope puts it on the desk, if it may be, and tells how great it is.
func (d *desk) putPolytope(p api.Polytope, e api.Errno) ([]string, api.Errno) {
	if e != api.OK {
		return nil, e
	}
	corners, e := hull.Corners(p)
	if e != api.OK {
		return nil, e
	}
	rows, e := hull.Rows(p)
	if e != api.OK {
		return nil, e
	}
	d.polytope = &p
	return tell(p.Dim, len(corners), len(rows)), api.OK
}

func (d *desk) points(words []string) ([]string, api.Errno) {
	points, e := readLists(words)
	p := api.Polytope{Points: points}
	if len(points) > 0 {
		p.Dim = len(points[0])
	}
	return d.putPolytope(p, e)
}

func (d *desk) cyclic(words []string) ([]string, api.Errno) {
	l, e := readNumbers(words)
	if e != api.OK {
		return nil, e
	}
	return d.putPolytope(hull.Cyclic(l[0], l[1]))
}

func (d *desk) named(words []string) ([]string, api.Errno) {
	dim, e := readNumber(words[1])
	if e != api.OK {
		return nil, e
	}
	switch words[0] {
	case "simplex":
		return d.putPolytope(named.Simplex(dim))
	case "cube":
		return d.putPolytope(named.Cube(dim))
	case "cross":
		return d.putPolytope(named.Cross(dim))
	case "orders":
		return d.putPolytope(named.Orders(dim))
	case "trees":
		return d.putPolytope(named.Trees(dim))
	}
	return nil, api.ErrKind
}

func (d *desk) rows([]string) ([]string, api.Errno) {
	return asked(d.polytope, hull.Rows, tellLists)
}

func (d *desk) corners([]string) ([]string, api.Errno) {
	return asked(d.polytope, hull.Corners, tellLists)
}

func (d *desk) counts([]string) ([]string, api.Errno) {
	return asked(d.polytope, face.Counts, tellNumbers)
}

func (d *desk) short([]string) ([]string, api.Errno) {
	return asked(d.polytope, face.Short, tellNumbers)
}

func (d *desk) ehrhart([]string) ([]string, api.Errno) {
	return asked(d.polytope, count.Ehrhart, tellNumbers)
}

func (d *desk) delta([]string) ([]string, api.Errno) {
	return asked(d.polytope, count.Delta, tellNumbers)
}

func (d *desk) volume([]string) ([]string, api.Errno) {
	return asked(d.polytope, volume.Of, tellNumber)
}

func (d *desk) polar([]string) ([]string, api.Errno) {
	return asked(d.polytope, polar.Corners, tellLists)
}

func (d *desk) places(words []string) ([]string, api.Errno) {
	return d.askedOf(words, count.Points)
}

func (d *desk) inner(words []string) ([]string, api.Errno) {
	return d.askedOf(words, count.Inner)
}

// askedOf tells a number of so many times the polytope.
func (d *desk) askedOf(words []string, find func(p api.Polytope, k int) (int, api.Errno)) ([]string, api.Errno) {
	k, e := readNumber(words[0])
	if e != api.OK {
		return nil, e
	}
	return asked(d.polytope, func(p api.Polytope) (int, api.Errno) { return find(p, k) }, tellNumber)
}

func (d *desk) where(words []string) ([]string, api.Errno) {
	x, e := readList(words[0])
	if e != api.OK {
		return nil, e
	}
	return asked(d.polytope, func(p api.Polytope) (int, api.Errno) { return hull.Where(p, x) }, tellNumber)
}
