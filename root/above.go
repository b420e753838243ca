package root

import (
	"cmp"
	"slices"

	"facet/api"
	"facet/exact"
)

// maxRoots is how many roots above 0 there are at the most, if they have an end.
const maxRoots = 24

// checked has the roots above 0, if Check says nothing.
func checked(c [][]int) ([][]int, api.Errno) {
	if len(c) < 1 || len(c) > api.MaxRank {
		return nil, api.ErrDim
	}
	for i, row := range c {
		if len(row) != len(c) || row[i] != 2 {
			return nil, api.ErrForm
		}
	}
	for i, row := range c {
		for j, v := range row {
			if e := checkPair(v, c[j][i]); i != j && e != api.OK {
				return nil, e
			}
		}
	}
	roots := above(c)
	if len(roots) > maxRoots {
		return nil, api.ErrOpen
	}
	return roots, api.OK
}

func checkPair(v, across int) api.Errno {
	if v < -3 || v > 0 {
		return api.ErrValue
	}
	if (v == 0) != (across == 0) {
		return api.ErrForm
	}
	return api.OK
}

// above are the roots above 0, or more than maxRoots of them: there may be no end. Each
// comes of a simple one by turns that stay above 0 all the way, so what is below is let go.
func above(c [][]int) [][]int {
	var roots [][]int
	for i := range c {
		simple := make([]int, len(c))
		simple[i] = 1
		roots = append(roots, simple)
	}
	for next := 0; next < len(roots) && len(roots) <= maxRoots; next++ {
		for j := range c {
			b := turned(c, roots[next], j)
			isThere := func(root []int) bool { return slices.Equal(root, b) }
			if b[j] >= 0 && !slices.ContainsFunc(roots, isThere) {
				roots = append(roots, b)
			}
		}
	}
	return roots
}

// turned is a sum of roots, turned over by the j-th: fresh memory, unlike it in one place.
func turned(c [][]int, b []int, j int) []int {
	over := slices.Clone(b)
	for i, v := range b {
		over[j] -= v * c[i][j]
	}
	return over
}

func byHeight(a, b []int) int {
	return cmp.Or(cmp.Compare(exact.Total(a), exact.Total(b)), slices.Compare(a, b))
}
