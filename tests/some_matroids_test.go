package tests

import (
	"math/bits"
	"slices"

	"facet/api"
	"facet/matroid"
)

func many(s int) int { return bits.OnesCount(uint(s)) }

// setsOf so many of n things, rising.
func setsOf(n, size int) []int {
	var out []int
	for s := range 1 << n {
		if many(s) == size {
			out = append(out, s)
		}
	}
	return out
}

func matroidOf(n int, bases ...int) api.Matroid { return api.Matroid{N: n, Bases: bases} }

// uniform: all sets of so many things are bases.
func uniform(n, rank int) api.Matroid { return matroidOf(n, setsOf(n, rank)...) }

func sameMatroid(a, b api.Matroid) bool { return a.N == b.N && slices.Equal(a.Bases, b.Bases) }

func noMatroid(m api.Matroid) bool { return m.N == 0 && len(m.Bases) == 0 }

// sevenPoints is the plane of seven points and seven lines.
func sevenPoints() api.Matroid {
	lines := []int{7, 25, 42, 52, 76, 82, 97}
	return matroidOf(7, slices.DeleteFunc(setsOf(7, 3), func(s int) bool { return slices.Contains(lines, s) })...)
}

// pairsOfEight is a matroid of eight things, in four pairs, that is none of columns:
// five of the six sets of two pairs hang on themselves.
func pairsOfEight() api.Matroid {
	hang := []int{0x0f, 0x33, 0xc3, 0x3c, 0xcc}
	return matroidOf(8, slices.DeleteFunc(setsOf(8, 4), func(s int) bool { return slices.Contains(hang, s) })...)
}

// families goes through all sets of the sets of one size of n things, but for the empty one.
func families(n, size int, look func(bases []int)) {
	sets := setsOf(n, size)
	for which := 1; which < 1<<len(sets); which++ {
		var bases []int
		for i, s := range sets {
			if which>>i&1 == 1 {
				bases = append(bases, s)
			}
		}
		look(bases)
	}
}

// canSwap goes by the last words of M1, thing by thing.
func canSwap(n int, bases []int) bool {
	for _, a := range bases {
		for _, b := range bases {
			for x := range n {
				if a>>x&1 == 0 || b>>x&1 == 1 {
					continue
				}
				found := false
				for y := range n {
					found = found || a>>y&1 == 0 && b>>y&1 == 1 && slices.Contains(bases, a-1<<x+1<<y)
				}
				if !found {
					return false
				}
			}
		}
	}
	return true
}

// isFreeIn: is the set part of a basis?
func isFreeIn(m api.Matroid, s int) bool {
	return slices.ContainsFunc(m.Bases, func(b int) bool { return b|s == b })
}

// rankByWords is how many things a free set has in s at the most.
func rankByWords(m api.Matroid, s int) int {
	most := 0
	for part := range 1 << m.N {
		if part|s == s && isFreeIn(m, part) {
			most = max(most, many(part))
		}
	}
	return most
}

// ofRank is the matroid in which sets have these ranks.
func ofRank(n int, rank func(s int) int) api.Matroid {
	all := rank(1<<n - 1)
	return matroidOf(n, slices.DeleteFunc(setsOf(n, all), func(s int) bool { return rank(s) < all })...)
}

// spreadOut is a set of fewer things with room made for thing i, which it has not.
func spreadOut(s, i int) int {
	return s%(1<<i) + s>>i<<(i+1)
}

// someMatroids are of all ranks and kinds: small ones, all of them; of graphs and columns; and with names.
func someMatroids(seed die) []api.Matroid {
	d := seed
	out := []api.Matroid{sevenPoints(), pairsOfEight(), uniform(8, 4), uniform(8, 0), uniform(8, 8), uniform(6, 1), uniform(7, 5)}
	for n := range 5 {
		for size := range n + 1 {
			families(n, size, func(bases []int) {
				if canSwap(n, bases) {
					out = append(out, matroidOf(n, bases...))
				}
			})
		}
	}
	for round := range 40 {
		p := []int{2, 3, 5, 7}[round%4]
		if m, e := matroid.Vectors(p, drawnColumns(&d, p, d.below(9), 1+d.below(4))); e == api.OK {
			out = append(out, m)
		}
		nodes := 1 + d.below(7)
		if m, e := matroid.Graph(nodes, drawnEdges(&d, nodes, d.below(9))); e == api.OK {
			out = append(out, m)
		}
	}
	return out
}

// drawnColumns has some that are all noughts, and some twice.
func drawnColumns(d *die, p, many, long int) [][]int {
	var out [][]int
	for range many {
		column := make([]int, long)
		for i := range column {
			column[i] = d.below(p) * min(1, d.below(4))
		}
		if len(out) > 0 && d.below(4) == 0 {
			column = slices.Clone(out[d.below(len(out))])
		}
		out = append(out, column)
	}
	return out
}

func drawnEdges(d *die, nodes, many int) [][2]int {
	var out [][2]int
	for range many {
		out = append(out, [2]int{d.below(nodes), d.below(nodes)})
	}
	return out
}

// noWayAround: have edges so many parts that each joins two?
func noWayAround(nodes int, edges [][2]int) bool {
	seen, parts := make([]bool, nodes), 0
	var visit func(node int)
	visit = func(node int) {
		if seen[node] {
			return
		}
		seen[node] = true
		for _, edge := range edges {
			if edge[0] == node || edge[1] == node {
				visit(edge[0] + edge[1] - node)
			}
		}
	}
	for node := range nodes {
		if !seen[node] {
			parts++
			visit(node)
		}
	}
	return parts == nodes-len(edges)
}
