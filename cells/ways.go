package cells

import (
	"slices"

	"facet/api"
	"facet/set"
	"facet/volume"
)

// All are all ways to fill what is between the points with triangles whose corners are the points, all of them: lists of triangles, in order.
func All(points [][]int) ([][][]int, api.Errno) {
	if e := Check(points); e != api.OK {
		return nil, e
	}
	whole, e := volume.Of(planar(points))
	if e != api.OK {
		return nil, e
	}
	return filled(whole, emptyTriangles(points)), api.OK
}

// Flips: all ways that differ from one by one edge: two triangles that have it become the two others of their four corners; in order.
func Flips(points [][]int, way [][]int) ([][][]int, api.Errno) {
	all, e := All(points)
	if e != api.OK {
		return nil, e
	}
	if !slices.ContainsFunc(all, func(other [][]int) bool { return same(way, other) }) {
		return nil, api.ErrForm
	}
	return slices.DeleteFunc(all, func(other [][]int) bool { return lost(way, other) != 2 }), api.OK
}

func same(way, other [][]int) bool { return slices.EqualFunc(way, other, slices.Equal[[]int]) }

// lost is how many triangles of a way the other one does not have.
func lost(way, other [][]int) int {
	many := 0
	for _, t := range way {
		if !slices.ContainsFunc(other, func(o []int) bool { return slices.Equal(t, o) }) {
			many++
		}
	}
	return many
}

// filled are all ways to take triangles, none over another, that have as much as the
// whole together. Next to be taken is always one behind the last, so that the ways
// come in order: none is the beginning of another.
func filled(whole int, triangles []triangle) [][][]int {
	beside := besideEach(triangles)
	var out [][][]int
	var grow func(from int, taken set.Set, left int)
	grow = func(from int, taken set.Set, left int) {
		if left == 0 {
			out = append(out, told(triangles, taken))
			return
		}
		for i := from; i < len(triangles); i++ {
			if taken.In(beside[i]) {
				grow(i+1, taken|set.One(i), left-triangles[i].much)
			}
		}
	}
	grow(0, 0, whole)
	return out
}

// told is a way in fresh memory: a triangle is in many of them.
func told(triangles []triangle, taken set.Set) [][]int {
	var way [][]int
	for _, i := range taken.List() {
		way = append(way, slices.Clone(triangles[i].numbers))
	}
	return way
}
