package tests

import (
	"math"
	"slices"
	"testing"

	"facet/api"
	"facet/matroid"
)

// M5
func TestMatroidGreedy(t *testing.T) {
	square := matroidOf(4, 3, 5, 6, 9, 10, 12)
	mixed := matroidOf(4, 9, 12) // 0 and 2 alike, 1 never free, 3 in all
	for _, c := range []struct {
		what          string
		m             api.Matroid
		weights       []int
		basis, weight int
	}{
		{"the document's", square, []int{3, 1, 2, 5}, 9, 8},
		{"nothing", matroidOf(0, 0), nil, 0, 0},
		{"nothing, of an empty list", matroidOf(0, 0), []int{}, 0, 0},
		{"all alike: the lesser first", square, []int{2, 2, 2, 2}, 3, 4},
		{"some alike: the lesser first", square, []int{1, 7, 7, 7}, 6, 14},
		{"the greatest, then the lesser of two", square, []int{0, 4, 9, 4}, 6, 13},
		{"below 0 they are taken, too", square, []int{-3, -1, -2, -5}, 6, -3},
		{"noughts", square, []int{0, 0, 0, 0}, 3, 0},
		{"what is never free", mixed, []int{1, 900, 2, -50}, 12, -48},
		{"what is in all, though it is least", mixed, []int{2, 900, 1, -1000}, 9, -998},
		{"of two alike the lesser", mixed, []int{2, 0, 2, 0}, 9, 2},
		{"all of eight, the bounds", uniform(8, 8), slices.Repeat([]int{1000}, 8), 255, 8000},
		{"all of eight, the bounds below", uniform(8, 8), slices.Repeat([]int{-1000}, 8), 255, -8000},
		{"none of eight", uniform(8, 0), slices.Repeat([]int{1000}, 8), 0, 0},
		{"not three points of a line", sevenPoints(), []int{9, 8, 7, 1, 3, 2, 1}, 19, 20},
	} {
		basis, weight, e := matroid.Greedy(c.m, c.weights)
		if e != api.OK || basis != c.basis || weight != c.weight {
			t.Errorf("%s: matroid.Greedy(%v, %v) = %d, %d, %d, want %d, %d", c.what, c.m, c.weights, basis, weight, e, c.basis, c.weight)
		}
	}
}

// M5: each error, and which is told first.
func TestMatroidGreedyErrors(t *testing.T) {
	m := uniform(3, 2)
	for _, c := range []struct {
		what    string
		weights []int
		want    api.Errno
	}{
		{"the bounds", []int{1000, -1000, 0}, api.OK},
		{"none", nil, api.ErrCount},
		{"one too few", []int{1, 2}, api.ErrCount},
		{"one too many", []int{1, 2, 3, 4}, api.ErrCount},
		{"the count ahead of the value", []int{1001}, api.ErrCount},
		{"above", []int{1, 2, 1001}, api.ErrValue},
		{"below", []int{-1001, 2, 3}, api.ErrValue},
		{"the greatest int", []int{1, math.MaxInt, 2}, api.ErrValue},
		{"the least int", []int{1, math.MinInt, 2}, api.ErrValue},
	} {
		basis, weight, e := matroid.Greedy(m, c.weights)
		if e != c.want || e != api.OK && (basis != 0 || weight != 0) {
			t.Errorf("%s: matroid.Greedy(%v, %v) = %d, %d, %d, want error %d", c.what, m, c.weights, basis, weight, e, c.want)
		}
	}
}

// greedyByWords goes by M5: of those not gone through yet, the greatest, and of these the least, is next.
func greedyByWords(m api.Matroid, weights []int) (taken, weight int) {
	gone := 0
	for range weights {
		next := -1
		for i, w := range weights {
			if gone>>i&1 == 0 && (next < 0 || w > weights[next]) {
				next = i
			}
		}
		gone += 1 << next
		if isFreeIn(m, taken+1<<next) {
			taken += 1 << next
			weight += weights[next]
		}
	}
	return taken, weight
}

// greatestBasis is the greatest weight that a basis has.
func greatestBasis(m api.Matroid, weights []int) int {
	most := math.MinInt
	for _, b := range m.Bases {
		all := 0
		for i, w := range weights {
			all += w * (b >> i & 1)
		}
		most = max(most, all)
	}
	return most
}

// M5, and the whole: greed is good for matroids: what it takes is a basis, and none has more.
func TestMatroidGreedIsGood(t *testing.T) {
	d := die(180)
	for _, m := range someMatroids(180) {
		for _, most := range []int{1, 3, 20, api.MaxWeigh} {
			weights := d.list(m.N, most)
			wantBasis, want := greedyByWords(m, weights)
			basis, weight, e := matroid.Greedy(m, weights)
			if e != api.OK || basis != wantBasis || weight != want {
				t.Errorf("matroid.Greedy(%v, %v) = %d, %d, %d, want %d, %d", m, weights, basis, weight, e, wantBasis, want)
			}
			if !slices.Contains(m.Bases, basis) || weight != greatestBasis(m, weights) {
				t.Errorf("matroid.Greedy(%v, %v) = %d, %d: a basis has %d", m, weights, basis, weight, greatestBasis(m, weights))
			}
		}
	}
}

// The whole: greed is good just for matroids: of anything else there are weights by which what it takes is not the most.
func TestMatroidGreedIsGoodJustForMatroids(t *testing.T) {
	const n, most = 4, 5
	var all [][]int
	for code := range power(most, n) {
		all = append(all, []int{code % most, code / most % most, code / most / most % most, code / most / most / most})
	}
	others := 0
	for size := range n + 1 {
		families(n, size, func(bases []int) {
			m := matroidOf(n, bases...)
			isBad := func(weights []int) bool {
				_, weight := greedyByWords(m, weights)
				return weight < greatestBasis(m, weights)
			}
			isMatroid := matroid.Check(m) == api.OK
			if slices.ContainsFunc(all, isBad) == isMatroid {
				t.Errorf("matroid.Check(%v) = %d, and greed says otherwise", m, matroid.Check(m))
			}
			if isMatroid {
				return
			}
			others++
			if basis, weight, e := matroid.Greedy(m, all[0]); e != api.ErrForm || basis != 0 || weight != 0 {
				t.Errorf("matroid.Greedy(%v, %v) = %d, %d, %d", m, all[0], basis, weight, e)
			}
		})
	}
	if others != 15+63+15+2-68 {
		t.Errorf("%d that are no matroids", others)
	}
}

// Z2
func TestMatroidGreedyLists(t *testing.T) {
	was := []int{3, 1, 2, 5}
	m, weights := api.Matroid{N: 4, Bases: roomy([]int{3, 5, 6, 9, 10, 12})}, roomy(was)
	for range 2 {
		basis, weight, e := matroid.Greedy(m, weights)
		if basis != 9 || weight != 8 || e != api.OK || !untouched(weights, was) || !untouched(m.Bases, []int{3, 5, 6, 9, 10, 12}) {
			t.Errorf("matroid.Greedy(%v, %v) = %d, %d, %d", m, weights, basis, weight, e)
		}
	}
}
