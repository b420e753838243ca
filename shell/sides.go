package shell

import (
	"slices"

	"facet/set"
)

// sidesMet are the sides of a simplex (all of it but one) that are in one ahead, each once.
func sidesMet(simplex set.Set, ahead []set.Set) []set.Set {
	var met []set.Set
	for _, v := range simplex.List() {
		side := simplex &^ set.One(v)
		if slices.ContainsFunc(ahead, side.In) {
			met = append(met, side)
		}
	}
	return met
}

// meetInSides: is all that a simplex has in common with one ahead in one of its sides that are met?
func meetInSides(simplex set.Set, ahead, met []set.Set) bool {
	return !slices.ContainsFunc(ahead, func(other set.Set) bool {
		return !slices.ContainsFunc(met, (simplex & other).In)
	})
}
