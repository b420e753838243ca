package face

import (
	"facet/api"
	"facet/body"
	"facet/set"
)

// flag has a face of each dimension from 0 to Dim - 1, each of them in the next.
type flag [api.MaxDim]set.Set

// flags are those of a polytope. To each there is, for each dimension, just one other
// that is unlike it in the face of that dimension alone: next has its number. One
// comes from each flag to each other so, and what belongs together tells the faces.
type flags struct {
	dim  int
	next [][api.MaxDim]int
}

func flagsOf(b body.Body) flags {
	all := allFlags(levels(b), b.Dim)
	out := flags{b.Dim, make([][api.MaxDim]int, len(all))}
	waiting := map[flag]int{}
	for k, f := range all {
		for i := range b.Dim {
			gap := f
			gap[i] = 0
			other, ok := waiting[gap]
			if !ok {
				waiting[gap] = k
				continue
			}
			out.next[k][i], out.next[other][i] = other, k
		}
	}
	return out
}

func allFlags(levels [][]set.Set, dim int) []flag {
	var out []flag
	var grow func(f flag, at int, below set.Set)
	grow = func(f flag, at int, below set.Set) {
		if at == dim {
			out = append(out, f)
			return
		}
		for _, above := range levels[at+1] {
			if below.In(above) {
				f[at] = above
				grow(f, at+1, above)
			}
		}
	}
	grow(flag{}, 0, 0)
	return out
}

// haveOneForm: can the flags of a be turned to those of b, of the same dimension? Where
// the first one goes tells it of all others, so that there are few ways to try.
func haveOneForm(a, b flags) bool {
	if len(a.next) != len(b.next) {
		return false
	}
	for start := range b.next {
		if turns(a, b, start) {
			return true
		}
	}
	return false
}

// turns: do all flags of a find their places in b, if the first goes to start? As there
// are as many in b, and one comes to each of them, none is taken twice then.
func turns(a, b flags, start int) bool {
	place := make([]int, len(a.next)) // 1 more than the number in b; 0: not known yet
	place[0] = start + 1
	known := []int{0}
	for len(known) > 0 {
		k := known[0]
		known = known[1:]
		for i := range a.dim {
			other, want := a.next[k][i], b.next[place[k]-1][i]+1
			if place[other] == 0 {
				place[other] = want
				known = append(known, other)
			}
			if place[other] != want {
				return false
			}
		}
	}
	return true
}
