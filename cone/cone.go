// Package cone finds out how a goal is a sum of multiples of rows, from 0 on.
package cone

import (
	"iter"
	"slices"

	"facet/api"
	"facet/choose"
	"facet/exact"
)

// Ways goes through the ways in which so much of some rows, added, is Under times
// the goal: each by rows that don't hang on each other, above 0 of each. If there
// is any way at all, there is one of these (Caratheodory); and where a price of
// each row makes one the least, the least is among these.
//
// What a row has behind as many numbers as the goal has (such as its b) says nothing.
func Ways(rows [][]int, goal []int) iter.Seq[api.Taken] {
	return func(yield func(api.Taken) bool) {
		for many := range min(len(goal), len(rows)) + 1 {
			for chosen := range choose.Of(len(rows), many) {
				way, ok := wayBy(rows, chosen, goal)
				if ok && !yield(way) {
					return
				}
			}
		}
	}
}

// Reaches: is the goal such a sum?
func Reaches(rows [][]int, goal []int) bool {
	if taken, ok := exact.Normal(acrossOf(rows, goal), len(rows)+1); ok { // one alone may be it: no need to look further
		return taken[len(rows)] > 0 && slices.Min(taken) >= 0
	}
	for range Ways(rows, goal) {
		return true
	}
	return false
}

// Refuted is how so much of some rows a, b, added, is 0 everywhere in a and below 0
// in b; false, if it can't be: then there is an x for which all rows hold (Farkas).
func Refuted(rows [][]int, dim int) (api.Taken, bool) {
	goal := make([]int, dim+1)
	goal[dim] = -1
	for way := range Ways(rows, goal) {
		return api.Taken{Points: way.Points, Much: exact.Primitive(way.Much), Under: 1}, true
	}
	return api.Taken{}, false
}

// wayBy is the one way by just the chosen rows, all of them.
func wayBy(rows [][]int, chosen, goal []int) (api.Taken, bool) {
	last := len(chosen)
	taken, ok := exact.Normal(acrossOf(choose.Picked(rows, chosen), goal), last+1)
	if !ok || slices.Min(taken) <= 0 {
		return api.Taken{}, false
	}
	return api.Taken{Points: chosen, Much: taken[:last:last], Under: taken[last]}, true
}

// acrossOf has, number by number, what the rows and, behind them, the goal have there,
// its sign turned: what is taken of them all hangs together as a Normal does.
func acrossOf(rows [][]int, goal []int) [][]int {
	across := make([][]int, len(goal))
	for i, v := range goal {
		for _, row := range rows {
			across[i] = append(across[i], row[i])
		}
		across[i] = append(across[i], -v)
	}
	return across
}
