package plane

import (
	"cmp"
	"slices"

	"facet/choose"
	"facet/exact"
	"facet/set"
)

// flat has its planes by their numbers, rising.
type flat struct {
	planes []int
	rank   int
}

// flats are in order: first by rank, then as lists.
func flats(dim int, planes [][]int) []flat {
	var out []flat
	for many := range len(planes) + 1 {
		for chosen := range choose.Of(len(planes), many) {
			if isFlat(dim, planes, chosen) {
				out = append(out, flat{chosen, exact.Rank(choose.Picked(planes, chosen), dim)})
			}
		}
	}
	slices.SortFunc(out, func(a, b flat) int {
		return cmp.Or(cmp.Compare(a.rank, b.rank), slices.Compare(a.planes, b.planes))
	})
	return out
}

// isFlat: planes have an x in common just if what their a's add up to, their b's do, too;
// and another one goes through all such x just if it adds nothing to them.
func isFlat(dim int, planes [][]int, chosen []int) bool {
	those := choose.Picked(planes, chosen)
	rank := exact.Rank(those, dim+1)
	if exact.Rank(those, dim) < rank {
		return false
	}
	for i, other := range planes {
		if !slices.Contains(chosen, i) && exact.Rank(slices.Concat(those, [][]int{other}), dim+1) == rank {
			return false
		}
	}
	return true
}

// polynomial adds up Moebius's numbers by how many directions are left.
func polynomial(dim int, flats []flat) []int {
	coefficients := make([]int, dim+1)
	numbers := map[set.Set]int{}
	for _, f := range flats {
		u := moebius(numbers, f)
		numbers[set.Of(f.planes)] = u
		coefficients[dim-f.rank] += u
	}
	return coefficients
}

// moebius goes by the numbers of all flats of less rank, so of all that are within this one.
func moebius(numbers map[set.Set]int, f flat) int {
	if f.rank == 0 {
		return 1
	}
	sum := 0
	for other, u := range numbers {
		if other.In(set.Of(f.planes)) {
			sum += u
		}
	}
	return -sum
}
