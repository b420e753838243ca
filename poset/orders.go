package poset

import (
	"slices"

	"facet/set"
)

// grown are all lists of all things in which none stands behind one above it; in order.
func grown(above []set.Set) [][]int {
	var lists [][]int
	order := make([]int, 0, len(above))
	var grow func(left set.Set)
	grow = func(left set.Set) {
		if left == 0 {
			lists = append(lists, slices.Clone(order))
			return
		}
		for _, next := range (left &^ aboveAny(above, left)).List() {
			order = append(order, next)
			grow(left &^ set.One(next))
			order = order[:len(order)-1]
		}
	}
	grow(set.Set(1)<<len(above) - 1)
	return lists
}

// aboveAny has all that is above a thing of the set.
func aboveAny(above []set.Set, s set.Set) set.Set {
	var all set.Set
	for _, i := range s.List() {
		all |= above[i]
	}
	return all
}
