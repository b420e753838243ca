package convex

import (
	"iter"
	"slices"

	"facet/api"
	"facet/cone"
	"facet/exact"
)

const (
	manyParted = 7
	manyParts  = 3
	maxPart    = 3 // points of one part
)

// Tverberg: of seven points of the plane, each to which of three parts, so that there is a place between those of each.
func Tverberg(points [][]int) ([]int, api.Errno) {
	if e := Check(points); e != api.OK {
		return nil, e
	}
	if len(points[0]) != 2 {
		return nil, api.ErrDim
	}
	if len(points) != manyParted {
		return nil, api.ErrCount
	}
	for parts := range partings() {
		if shareAPlace(points, parts) {
			return parts, api.OK
		}
	}
	return nil, api.ErrNone // for no points at all, as Tverberg shows
}

// partings goes through ways to part the points, each told by its part; parts are
// numbered as they come up.
//
// Parts of three at most are enough: among points that lie as most do, none is another
// one or on a line of two others, so that parts of one, two and four share no place,
// nor do those of one, one and five. Any other points have such ones ever closer to
// them, of which one parting serves again and again: in the end it serves them, too.
func partings() iter.Seq[[]int] {
	return func(yield func([]int) bool) {
		var fill func(parts []int, sizes [manyParts]int) bool
		fill = func(parts []int, sizes [manyParts]int) bool {
			if len(parts) == manyParted {
				return yield(slices.Clone(parts))
			}
			for next, size := range sizes {
				grown := sizes
				grown[next]++
				if size < maxPart && !fill(append(parts, next), grown) {
					return false
				}
				if size == 0 {
					break
				}
			}
			return true
		}
		fill(make([]int, 0, manyParted), [manyParts]int{})
	}
}

// shareAPlace: is there a place between the points of each part?
func shareAPlace(points [][]int, parts []int) bool {
	var rows [][]int
	for i, x := range points {
		rows = append(rows, heldAgainst(x, parts[i]))
	}
	goal := make([]int, len(rows[0]))
	goal[len(goal)-1] = 1
	return cone.Reaches(rows, goal)
}

// heldAgainst is a row of a point: so much of such rows, added, is 0 but for its last
// number, just if so much of the first part's points is as much, and is the same place,
// as it is of the third part's; and so of the second part's (Sarkaria).
func heldAgainst(x []int, part int) []int {
	y := withOne(x)
	none, less := make([]int, len(y)), exact.Negated(y)
	switch part {
	case 0:
		return slices.Concat(y, none, []int{1})
	case 1:
		return slices.Concat(none, y, []int{1})
	}
	return slices.Concat(less, less, []int{1})
}
