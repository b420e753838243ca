package poset

import (
	"slices"

	"facet/api"
	"facet/set"
)

// maxPairs: of so many things there are no more pairs that are unlike.
const maxPairs = api.MaxOrder * api.MaxOrder

// read finds of each thing those above it, or what is wrong with the order.
func read(p api.Poset) ([]set.Set, api.Errno) {
	if p.N < 1 || p.N > api.MaxOrder {
		return nil, api.ErrLimit
	}
	if len(p.Pairs) > maxPairs {
		return nil, api.ErrCount
	}
	isNone := func(i int) bool { return i < 0 || i >= p.N }
	if slices.ContainsFunc(p.Pairs, func(pair [2]int) bool { return isNone(pair[0]) || isNone(pair[1]) }) {
		return nil, api.ErrPlace
	}
	above := closed(p)
	for i := range above {
		if isIn(i, above[i]) {
			return nil, api.ErrForm
		}
	}
	return above, api.OK
}

// closed: of each thing those that its pairs set above it, and all above those.
func closed(p api.Poset) []set.Set {
	above := make([]set.Set, p.N)
	for _, pair := range p.Pairs {
		above[pair[0]] |= set.One(pair[1])
	}
	// Once a thing was gone through, whatever is reached by way of it is known.
	for by := range above {
		for i := range above {
			if isIn(by, above[i]) {
				above[i] |= above[by]
			}
		}
	}
	return above
}

// isIn: is the thing in the set?
func isIn(i int, s set.Set) bool { return set.One(i).In(s) }
