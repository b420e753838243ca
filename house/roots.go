package house

import (
	"slices"

	"facet/api"
	"facet/root"
	"facet/weight"
	"facet/weyl"
)

func (*desk) roots(words []string) ([]string, api.Errno) {
	c, _, e := readRoots(words)
	if e != api.OK {
		return nil, e
	}
	return tellLists(root.Positive(c))
}

func (*desk) degrees(words []string) ([]string, api.Errno) {
	c, _, e := readRoots(words)
	if e != api.OK {
		return nil, e
	}
	return tellNumbers(weyl.Degrees(c))
}

func (*desk) reduce(words []string) ([]string, api.Errno) {
	c, word, e := readRoots(words)
	if e != api.OK {
		return nil, e
	}
	short, e := weyl.Reduce(c, word)
	return slices.Concat([]string{"="}, tell(short...)), e
}

func (*desk) size(words []string) ([]string, api.Errno) {
	c, top, e := readRoots(words)
	if e != api.OK {
		return nil, e
	}
	return tellNumber(weight.Size(c, top))
}

func (*desk) marks(words []string) ([]string, api.Errno) {
	c, top, e := readRoots(words)
	if e != api.OK {
		return nil, e
	}
	marks, e := weight.Marks(c, top)
	var lists [][]int
	for _, w := range marks {
		lists = append(lists, append(w.Mark, w.Many))
	}
	return tellLists(lists, e)
}
