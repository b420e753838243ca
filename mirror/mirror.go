// Package mirror turns weights over by simple roots: it has their marks, of each root one,
// and the square of these roots, which have an end.
package mirror

import "slices"

// Over turns marks over by a root, in their own memory.
func Over(c [][]int, marks []int, root int) {
	v := marks[root]
	for i := range marks {
		marks[i] -= v * c[root][i]
	}
}

// Upright turns marks over, in their own memory, by the first root that has one below 0,
// till none has; it tells by which roots. Each turn leaves one root above 0 fewer on
// whose other side the weight is: so it ends, and no fewer turns would do.
func Upright(c [][]int, marks []int) []int {
	var turned []int
	for {
		first := slices.IndexFunc(marks, func(v int) bool { return v < 0 })
		if first < 0 {
			return turned
		}
		Over(c, marks, first)
		turned = append(turned, first)
	}
}
