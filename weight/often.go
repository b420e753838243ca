package weight

import (
	"slices"

	"facet/exact"
	"facet/mirror"
)

// often is how many times w belongs to top: the ways in which it comes to w from where
// each turn takes top, all of these 1 higher, by even turns less by odd ones (Kostant).
func (r roots) often(top, w []int) int {
	gap, isSum := r.sum(exact.Sum(top, exact.Negated(w)))
	if !isSum {
		return 0
	}
	ways := waysUpTo(r.above, gap)
	first := markOf(exact.Sum(top, slices.Repeat([]int{1}, len(r.c))))
	often, sign := 0, 1
	for round := (map[mark]mark{first: {}}); len(round) > 0; round = r.turned(round) {
		for _, taken := range round {
			often += sign * ways.of(exact.Sum(gap, exact.Negated(taken[:len(gap)])))
		}
		sign = -sign
	}
	return often
}

// turned has all weights of a round, turned over by each simple root that takes something
// from them, with what was taken in all, as a sum of roots. Of a top without a 0 the turns
// of each length are a round.
func (r roots) turned(round map[mark]mark) map[mark]mark {
	next := map[mark]mark{}
	for w, taken := range round {
		for i := range r.c {
			if w[i] > 0 {
				over, more := w, taken
				mirror.Over(r.c, over[:len(r.c)], i)
				more[i] += w[i]
				next[over] = more
			}
		}
	}
	return next
}

// sum is a weight as a sum of simple roots; false: it is none of whole numbers.
func (r roots) sum(w []int) ([]int, bool) {
	whole := exact.Det(r.c)
	sum := make([]int, len(r.c))
	for i := range r.c {
		rows := slices.Clone(r.c)
		rows[i] = w
		det := exact.Det(rows)
		if det%whole != 0 {
			return nil, false
		}
		sum[i] = det / whole
	}
	return sum, true
}
