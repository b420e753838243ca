package root

import "slices"

// parts are what hangs together, by the roots' numbers; each root of a part but its
// first one has a neighbour ahead of it.
func parts(c [][]int) [][]int {
	var all [][]int
	for i := range c {
		isIn := func(part []int) bool { return slices.Contains(part, i) }
		if !slices.ContainsFunc(all, isIn) {
			all = append(all, partFrom(c, i))
		}
	}
	return all
}

func partFrom(c [][]int, first int) []int {
	part := []int{first}
	for next := 0; next < len(part); next++ {
		for j, v := range c[part[next]] {
			if v != 0 && !slices.Contains(part, j) {
				part = append(part, j)
			}
		}
	}
	return part
}

// measure writes the lengths of a part's roots into the list of all. Only one pair of
// neighbours is of unlike lengths, twice or three times the other: what begins with 6
// stays whole.
func measure(c [][]int, part, lengths []int) {
	least := 6
	lengths[part[0]] = least
	for _, i := range part {
		for _, j := range part {
			if c[i][j] != 0 && lengths[j] == 0 {
				lengths[j] = lengths[i] * c[j][i] / c[i][j]
				least = min(least, lengths[j])
			}
		}
	}
	for _, i := range part {
		lengths[i] /= least
	}
}
