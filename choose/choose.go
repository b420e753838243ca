// Package choose goes through all choices of some things.
package choose

import (
	"iter"
	"slices"
)

// Of goes through all choices of so many of the numbers 0 to n - 1: rising lists, in order, each in fresh memory.
func Of(n, many int) iter.Seq[[]int] {
	return func(yield func([]int) bool) {
		chosen := make([]int, many)
		var fill func(at, from int) bool
		fill = func(at, from int) bool {
			if at == many {
				return yield(slices.Clone(chosen))
			}
			for i := range n - from {
				chosen[at] = from + i
				if !fill(at+1, from+i+1) {
					return false
				}
			}
			return true
		}
		fill(0, 0)
	}
}

// Orders goes through all orders of the numbers 0 to n - 1: in order, each in fresh memory.
func Orders(n int) iter.Seq[[]int] {
	return func(yield func([]int) bool) {
		order := make([]int, 0, n)
		var fill func() bool
		fill = func() bool {
			if len(order) == n {
				return yield(slices.Clone(order))
			}
			for next := range n {
				if slices.Contains(order, next) {
					continue
				}
				order = append(order, next)
				goOn := fill()
				order = order[:len(order)-1]
				if !goOn {
					return false
				}
			}
			return true
		}
		fill()
	}
}

// Picked are the things of a list that have the chosen numbers.
func Picked[T any](list []T, chosen []int) []T {
	out := make([]T, 0, len(chosen))
	for _, i := range chosen {
		out = append(out, list[i])
	}
	return out
}
