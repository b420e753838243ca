package matroid

import (
	"slices"

	"facet/api"
	"facet/check"
	"facet/choose"
	"facet/set"
)

// Graph is the matroid of edges: sets without a circle.
func Graph(nodes int, edges [][2]int) (api.Matroid, api.Errno) {
	if nodes < 1 || nodes > api.MaxNodes || len(edges) > api.MaxGround {
		return api.Matroid{}, api.ErrLimit
	}
	for _, edge := range edges {
		if min(edge[0], edge[1]) < 0 || max(edge[0], edge[1]) >= nodes {
			return api.Matroid{}, api.ErrPlace
		}
	}
	free := func(s set.Set) bool { return isForest(nodes, choose.Picked(edges, s.List())) }
	return made(len(edges), free), api.OK
}

// made is the matroid of n things in which these sets are free. All its greatest ones
// have as many things as each other.
func made(n int, free func(set.Set) bool) api.Matroid {
	sets, rank := setsThat(n, free), 0
	for _, s := range sets {
		rank = max(rank, set.Set(s).Len())
	}
	isLess := func(s int) bool { return set.Set(s).Len() < rank }
	return api.Matroid{N: n, Bases: slices.DeleteFunc(sets, isLess)}
}

// isForest: do edges lead nowhere around? Each of them then joins two parts that
// those ahead of it leave unjoined.
func isForest(nodes int, edges [][2]int) bool {
	partOf := make([]int, nodes)
	for node := range partOf {
		partOf[node] = node
	}
	for _, edge := range edges {
		from, to := partOf[edge[0]], partOf[edge[1]]
		if from == to {
			return false
		}
		for node, part := range partOf {
			if part == from {
				partOf[node] = to
			}
		}
	}
	return true
}

// Vectors is the matroid of columns over numbers modulo a prime.
func Vectors(p int, columns [][]int) (api.Matroid, api.Errno) {
	if !slices.Contains([]int{2, 3, 5, 7}, p) {
		return api.Matroid{}, api.ErrKind
	}
	if len(columns) > api.MaxGround {
		return api.Matroid{}, api.ErrLimit
	}
	for _, column := range columns {
		if e := checkColumn(p, column, len(columns[0])); e != api.OK {
			return api.Matroid{}, e
		}
	}
	free := func(s set.Set) bool { return standAlone(p, choose.Picked(columns, s.List())) }
	return made(len(columns), free), api.OK
}

func checkColumn(p int, column []int, long int) api.Errno {
	if long < 1 || long > api.MaxGround {
		return api.ErrForm
	}
	return check.Within(column, long, 0, p-1)
}

// standAlone: is none of the columns a sum of multiples of others? Each in turn is
// cleared from those behind it; one that comes to nothing hung on those ahead.
func standAlone(p int, columns [][]int) bool {
	var rest [][]int
	for _, column := range columns {
		rest = append(rest, slices.Clone(column))
	}
	for i, column := range rest {
		place := slices.IndexFunc(column, func(v int) bool { return v != 0 })
		if place < 0 {
			return false
		}
		for _, behind := range rest[i+1:] {
			clearPlace(p, behind, column, place)
		}
	}
	return true
}

// clearPlace makes a column 0 in a place where the other one is not. To multiply it by
// what the other one has there changes nothing that hangs on it, as p is a prime.
func clearPlace(p int, column, by []int, place int) {
	keep, add := by[place], p-column[place]
	for i := range column {
		column[i] = (keep*column[i] + add*by[i]) % p
	}
}
