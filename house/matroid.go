package house

import (
	"facet/api"
	"facet/matroid"
)

// putMatroid puts it on the desk, if it may be, and tells how great it is.
func (d *desk) putMatroid(m api.Matroid, e api.Errno) ([]string, api.Errno) {
	if e != api.OK {
		return nil, e
	}
	if e := matroid.Check(m); e != api.OK {
		return nil, e
	}
	all := 1<<m.N - 1
	rank, e := matroid.Rank(m, all)
	if e != api.OK {
		return nil, e
	}
	d.matroid = &m
	return tell(m.N, rank, len(m.Bases)), api.OK
}

func (d *desk) bases(words []string) ([]string, api.Errno) {
	n, bases, e := readBoth(words, readNumber, readNumbers)
	return d.putMatroid(api.Matroid{N: n, Bases: bases}, e)
}

func (d *desk) graph(words []string) ([]string, api.Errno) {
	nodes, edges, e := readBoth(words, readNumber, readPairs)
	if e != api.OK {
		return nil, e
	}
	return d.putMatroid(matroid.Graph(nodes, edges))
}

func (d *desk) dual([]string) ([]string, api.Errno) {
	return asked(d.matroid, matroid.Dual, d.putMatroid)
}

func (d *desk) circuits([]string) ([]string, api.Errno) {
	return asked(d.matroid, matroid.Circuits, tellNumbers)
}

func (d *desk) flats([]string) ([]string, api.Errno) {
	return asked(d.matroid, matroid.Flats, tellNumbers)
}

func (d *desk) greedy(words []string) ([]string, api.Errno) {
	weights, e := readNumbers(words)
	if e != api.OK {
		return nil, e
	}
	find := func(m api.Matroid) ([]int, api.Errno) {
		basis, weight, e := matroid.Greedy(m, weights)
		return []int{basis, weight}, e
	}
	return asked(d.matroid, find, tellNumbers)
}
