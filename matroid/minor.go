package matroid

import (
	"slices"

	"facet/api"
)

// Dual: what bases leave.
func Dual(m api.Matroid) (api.Matroid, api.Errno) {
	if e := Check(m); e != api.OK {
		return api.Matroid{}, e
	}
	all := 1<<m.N - 1
	dual := api.Matroid{N: m.N}
	for _, b := range slices.Backward(m.Bases) { // what the greater one leaves is less
		dual.Bases = append(dual.Bases, all&^b)
	}
	return dual, api.OK
}

// Delete: without a thing.
func Delete(m api.Matroid, i int) (api.Matroid, api.Errno) {
	return ofOthers(m, i, func(b int) bool { return b>>i&1 == 0 })
}

// Contract: without a thing, as if one had it.
func Contract(m api.Matroid, i int) (api.Matroid, api.Errno) {
	return ofOthers(m, i, func(b int) bool { return b>>i&1 == 1 })
}

// ofOthers is the matroid of all things but i, by the bases that are kept, or by all, if
// none is. Either way they all have i, or none of them has: without it they rise as they did.
func ofOthers(m api.Matroid, i int, isKept func(b int) bool) (api.Matroid, api.Errno) {
	if e := Check(m); e != api.OK {
		return api.Matroid{}, e
	}
	if i < 0 || i >= m.N {
		return api.Matroid{}, api.ErrPlace
	}
	var kept, all []int
	for _, b := range m.Bases {
		all = append(all, without(b, i))
		if isKept(b) {
			kept = append(kept, without(b, i))
		}
	}
	if len(kept) == 0 {
		kept = all
	}
	return api.Matroid{N: m.N - 1, Bases: kept}, api.OK
}

// without is a set without i; the things above i are one less.
func without(s, i int) int {
	below := 1<<i - 1
	return s&below | s>>1&^below
}
