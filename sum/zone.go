package sum

import (
	"facet/api"
	"facet/check"
	"facet/choose"
	"facet/exact"
	"facet/wrap"
)

// mostWay bounds the numbers of a segment, either way.
const mostWay = 20

// Check says whether segments may be.
func Check(dim int, ways [][]int) api.Errno {
	if dim < 1 || dim > 3 {
		return api.ErrDim
	}
	if len(ways) < 1 || len(ways) > api.MaxZone {
		return api.ErrCount
	}
	for _, way := range ways {
		if e := check.List(way, dim, mostWay); e != api.OK {
			return e
		}
	}
	if exact.Rank(ways, dim) < dim {
		return api.ErrFlat
	}
	return api.OK
}

// Zone are the corners of the sum of segments from 0 on.
func Zone(dim int, ways [][]int) ([][]int, api.Errno) {
	if e := Check(dim, ways); e != api.OK {
		return nil, e
	}
	nought := make([]int, dim)
	points := [][]int{nought}
	for _, way := range ways {
		points = sums(points, [][]int{nought, way})
	}
	return wrap.Corners(points), api.OK
}

// Tiles: which of the segments span all, so many at a time; and how much each of these has in it.
func Tiles(dim int, ways [][]int) (sets [][]int, sizes []int, e api.Errno) {
	if e := Check(dim, ways); e != api.OK {
		return nil, nil, e
	}
	for chosen := range choose.Of(len(ways), dim) {
		det := exact.Det(choose.Picked(ways, chosen))
		if det != 0 {
			sets = append(sets, chosen)
			sizes = append(sizes, max(det, -det))
		}
	}
	return sets, sizes, api.OK
}
