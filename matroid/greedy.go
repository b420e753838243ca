package matroid

import (
	"cmp"
	"slices"

	"facet/api"
	"facet/exact"
	"facet/set"
)

// Greedy: things taken by falling weights (of alike ones the lesser number), if they don't hang on those so far: a basis of the greatest weight.
func Greedy(m api.Matroid, weights []int) (basis, weight int, e api.Errno) {
	if e := Check(m); e != api.OK {
		return 0, 0, e
	}
	if len(weights) != m.N {
		return 0, 0, api.ErrCount
	}
	if exact.AnyBeyond(weights, api.MaxWeigh) {
		return 0, 0, api.ErrValue
	}
	free := freeIn(m)
	var taken set.Set
	for _, i := range heaviestFirst(weights) {
		if more := taken | set.One(i); free(more) {
			taken = more
			weight += weights[i]
		}
	}
	return int(taken), weight, api.OK
}

// heaviestFirst has the things by falling weights, of alike ones the lesser first.
func heaviestFirst(weights []int) []int {
	var things []int
	for i := range weights {
		things = append(things, i)
	}
	slices.SortStableFunc(things, func(a, b int) int { return cmp.Compare(weights[b], weights[a]) })
	return things
}
