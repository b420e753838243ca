package plane

import (
	"slices"

	"facet/api"
	"facet/check"
	"facet/exact"
)

// maxDim is a bound of planes alone; polytopes may have api.MaxDim.
const maxDim = 3

func checkOne(dim int, plane []int, ahead [][]int) api.Errno {
	if e := check.List(plane, dim+1, api.MaxCut); e != api.OK {
		return e
	}
	if exact.Rank([][]int{plane}, dim) == 0 {
		return api.ErrForm
	}
	isSame := func(other []int) bool { return exact.Rank([][]int{plane, other}, dim+1) == 1 }
	if slices.ContainsFunc(ahead, isSame) {
		return api.ErrTwice
	}
	return api.OK
}
