package volume

import (
	"slices"

	"facet/set"
)

// filled is a face and the cells that fill it, as sets of corners.
type filled struct {
	corners set.Set
	cells   []set.Set
}

// pulled are the cells of the whole. One goes up by dimensions, from corners on, so that
// no face is pulled again for each greater one that has it.
func pulled(lattice [][][]int, order []int) []set.Set {
	var below []filled
	pull := func(corners set.Set) filled {
		if corners.Len() == 1 {
			return filled{corners, []set.Set{corners}}
		}
		first := firstOf(corners, order)
		apart := func(side filled) bool { return side.corners.In(corners) && !first.In(side.corners) }
		return filled{corners, putToCells(first, below, apart)}
	}
	for _, level := range lattice[1:] {
		var here []filled
		for _, list := range level {
			here = append(here, pull(set.Of(list)))
		}
		below = here
	}
	return below[0].cells
}

// firstOf is that corner of a face, which has some, that comes first in the order of all.
func firstOf(corners set.Set, order []int) set.Set {
	at := slices.IndexFunc(order, func(corner int) bool { return set.One(corner).In(corners) })
	return set.One(order[at])
}

// putToCells puts a corner to each cell of the faces that are wanted.
func putToCells(corner set.Set, faces []filled, wanted func(filled) bool) []set.Set {
	var out []set.Set
	for _, f := range faces {
		if !wanted(f) {
			continue
		}
		for _, cell := range f.cells {
			out = append(out, corner|cell)
		}
	}
	return out
}
