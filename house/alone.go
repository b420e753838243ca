package house

import (
	"slices"

	"facet/api"
	"facet/crystal"
	"facet/half"
	"facet/lp"
	"facet/plane"
	"facet/poset"
	"facet/tropic"
)

// These lines ask for nothing on the desk, and leave nothing there.

func (*desk) cut(words []string) ([]string, api.Errno) {
	dim, rows, e := readBoth(words, readNumber, readLists)
	if e != api.OK {
		return nil, e
	}
	return tellLists(half.Corners(api.Cut{Dim: dim, Rows: rows}))
}

func (*desk) best(words []string) ([]string, api.Errno) {
	goal, rows, e := readBoth(words, readList, readLists)
	if e != api.OK {
		return nil, e
	}
	over, under, e := lp.Best(api.Cut{Dim: len(goal), Rows: rows}, goal)
	return tell(over, under), e
}

func (*desk) least(words []string) ([]string, api.Errno) {
	square, e := readLists(words)
	if e != api.OK {
		return nil, e
	}
	sum, choice, e := tropic.Least(square)
	return slices.Concat(tell(sum), tell(choice...)), e
}

func (*desk) planes(words []string) ([]string, api.Errno) {
	dim, planes, e := readBoth(words, readNumber, readLists)
	if e != api.OK {
		return nil, e
	}
	regions, e := plane.Regions(dim, planes)
	if e != api.OK {
		return nil, e
	}
	bounded, e := plane.Bounded(dim, planes)
	if e != api.OK {
		return nil, e
	}
	poly, e := plane.Poly(dim, planes)
	return slices.Concat(tell(len(regions), len(bounded)), tell(poly...)), e
}

func (*desk) word(words []string) ([]string, api.Errno) {
	n, letters, e := readBoth(words, readNumber, readNumbers)
	if e != api.OK {
		return nil, e
	}
	all, e := crystal.All(n, letters)
	if e != api.OK {
		return nil, e
	}
	high, e := crystal.High(n, letters)
	return slices.Concat(tell(len(all)), tell(high...)), e
}

func (*desk) orders(words []string) ([]string, api.Errno) {
	n, pairs, e := readBoth(words, readNumber, readPairs)
	if e != api.OK {
		return nil, e
	}
	orders, e := poset.Orders(api.Poset{N: n, Pairs: pairs})
	return tell(len(orders)), e
}
