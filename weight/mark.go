package weight

import (
	"slices"

	"facet/api"
)

// mark is a weight's numbers, or those of a sum of roots; 0 behind them.
type mark [maxRank]int

func markOf(l []int) mark {
	var m mark
	copy(m[:], l)
	return m
}

// plus adds a list to it, so many times.
func (m mark) plus(l []int, times int) mark {
	for i, v := range l {
		m[i] += times * v
	}
	return m
}

// told are the weights with how many times each is there, in order.
func told(many map[mark]int, rank int) []api.Weighed {
	var out []api.Weighed
	for w, n := range many {
		out = append(out, api.Weighed{Mark: slices.Clone(w[:rank]), Many: n})
	}
	slices.SortFunc(out, func(a, b api.Weighed) int { return slices.Compare(a.Mark, b.Mark) })
	return out
}
