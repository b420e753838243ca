package cells

import (
	"slices"

	"facet/choose"
	"facet/set"
)

type triangle struct {
	numbers []int // of its corners, rising
	corners [][]int
	much    int // twice what is in it
}

// emptyTriangles are those that have no point but their corners, in the order of their numbers.
func emptyTriangles(points [][]int) []triangle {
	var out []triangle
	for chosen := range choose.Of(len(points), 3) {
		t := triangle{numbers: chosen, corners: choose.Picked(points, chosen)}
		t.much = max(turn(t.corners), -turn(t.corners))
		outside := func(x []int) bool { return !t.has(x) }
		if t.much > 0 && len(slices.DeleteFunc(slices.Clone(points), outside)) == 3 {
			out = append(out, t)
		}
	}
	return out
}

// has: is a point in the triangle, or on its edges?
func (t triangle) has(x []int) bool {
	for edge := range t.corners {
		if t.side(edge, x) < 0 {
			return false
		}
	}
	return true
}

// side is above 0, if x is on the same side of an edge as the triangle, and 0 on its
// line. An edge has the number of the corner that is not on it.
func (t triangle) side(edge int, x []int) int {
	moved := slices.Clone(t.corners)
	moved[edge] = x
	return turn(t.corners) * turn(moved)
}

// besideEach has of each triangle those that have no place inside in common with it.
func besideEach(triangles []triangle) []set.Set {
	beside := make([]set.Set, len(triangles))
	for i, t := range triangles {
		for j, o := range triangles {
			if t.leavesOut(o) || o.leavesOut(t) {
				beside[i] |= set.One(j)
			}
		}
	}
	return beside
}

// leavesOut: is there an edge on whose other side all of the other triangle is? Of two
// that have no place inside in common one leaves out the other so.
func (t triangle) leavesOut(o triangle) bool {
	for edge := range t.corners {
		inward := func(x []int) bool { return t.side(edge, x) > 0 }
		if !slices.ContainsFunc(o.corners, inward) {
			return true
		}
	}
	return false
}
