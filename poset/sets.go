package poset

import (
	"facet/api"
	"facet/set"
)

// setsThat are the sets that allow what is above each of their things; rising.
func setsThat(p api.Poset, allows func(s, above set.Set) bool) ([]int, api.Errno) {
	above, e := read(p)
	if e != api.OK {
		return nil, e
	}
	var sets []int
next:
	for number := range 1 << p.N {
		s := set.Set(number)
		for _, i := range s.List() {
			if !allows(s, above[i]) {
				continue next
			}
		}
		sets = append(sets, number)
	}
	return sets, api.OK
}

// ofSets is the polytope of some sets of an order: of each the point with 1 in the places of its things.
func ofSets(p api.Poset, sets func(api.Poset) ([]int, api.Errno)) (api.Polytope, api.Errno) {
	numbers, e := sets(p)
	if e != api.OK {
		return api.Polytope{}, e
	}
	if p.N > api.MaxDim {
		return api.Polytope{}, api.ErrDim
	}
	q := api.Polytope{Dim: p.N}
	for _, number := range numbers {
		point := make([]int, p.N)
		for _, i := range set.Set(number).List() {
			point[i] = 1
		}
		q.Points = append(q.Points, point)
	}
	return q, api.OK
}
