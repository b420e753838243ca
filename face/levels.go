package face

import (
	"slices"

	"facet/body"
	"facet/choose"
	"facet/exact"
	"facet/set"
)

// levels are all faces by their dimensions, from -1 on, in no order that is told.
// What a face has in common with a side is a face again, and each comes so of the
// whole; as it gets less each time, this goes no deeper than there are dimensions.
func levels(b body.Body) [][]set.Set {
	out := make([][]set.Set, b.Dim+2)
	dimensions := map[set.Set]int{}
	var see func(f set.Set)
	see = func(f set.Set) {
		if _, seen := dimensions[f]; seen {
			return
		}
		dimensions[f] = dimension(b, f)
		level := dimensions[f] + 1
		out[level] = append(out[level], f)
		for _, side := range b.Sides {
			see(f & side)
		}
	}
	see(b.All())
	return out
}

func dimension(b body.Body, f set.Set) int {
	if f.Len() == 0 {
		return -1
	}
	return exact.Rank(exact.Differences(choose.Picked(b.Corners, f.List())), b.Dim)
}

func counts(levels [][]set.Set) []int {
	var out []int
	for _, faces := range levels {
		out = append(out, len(faces))
	}
	return out
}

func isSimplicial(b body.Body) bool {
	return !slices.ContainsFunc(b.Sides, func(side set.Set) bool { return side.Len() != b.Dim })
}

func isSimple(b body.Body) bool {
	sidesAt := make([]int, len(b.Corners))
	for _, side := range b.Sides {
		for _, corner := range side.List() {
			sidesAt[corner]++
		}
	}
	return !slices.ContainsFunc(sidesAt, func(many int) bool { return many != b.Dim })
}

// short is the sum of f(i - 1) x^i (1 - x)^(Dim - i): what there is so far is taken
// (1 - x) times ahead of each further count, so that the first is taken so Dim times.
func short(counts []int) []int {
	var sum []int
	for i, many := range counts {
		sum = append(sum, 0)
		for j := i; j > 0; j-- {
			sum[j] -= sum[j-1]
		}
		sum[i] += many
	}
	return sum
}
