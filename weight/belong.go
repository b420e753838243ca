package weight

import (
	"math"

	"facet/root"
)

// roots has what is asked of simple roots again and again. They have an end.
type roots struct {
	c       [][]int
	above   [][]int // the roots above 0
	lengths []int
}

func rootsOf(c [][]int) roots {
	above, _ := root.Positive(c)
	lengths, _ := root.Lengths(c)
	return roots{c, above, lengths}
}

// product of a weight and a sum of roots.
func (r roots) product(w, b []int) int {
	product := 0
	for i, length := range r.lengths {
		product += b[i] * length * w[i]
	}
	return product
}

// weight is that of a sum of roots.
func (r roots) weight(b []int) mark {
	var w mark
	for i, row := range r.c {
		w = w.plus(row, b[i])
	}
	return w
}

// belonging tells of each weight that belongs to top how many times it does (Freudenthal).
// Each but top is one that belongs less a simple root: so it is enough to go on, round by
// round, from those that do.
func (r roots) belonging(top mark) map[mark]int {
	many := map[mark]int{top: 1}
	round := map[mark]mark{top: {}}
	for len(round) > 0 {
		round = r.lower(round)
		for w, taken := range round {
			if n := r.times(many, top, w, taken); n > 0 {
				many[w] = n
			} else {
				delete(round, w)
			}
		}
	}
	return many
}

// lower has all weights of a round less each simple root, with what was taken from the
// top in all, as a sum of roots.
func (r roots) lower(round map[mark]mark) map[mark]mark {
	next := map[mark]mark{}
	for w, taken := range round {
		for i, row := range r.c {
			more := taken
			more[i]++
			next[w.plus(row, -1)] = more
		}
	}
	return next
}

// times is how many times a weight belongs to top; those of which less was taken are known.
func (r roots) times(many map[mark]int, top, w, taken mark) int {
	twice := top.plus(w[:], 1) // 2 top less what was taken
	for i := range r.c {
		twice[i] += 2
	}
	by := r.product(twice[:], taken[:])
	if by <= 0 {
		return 0
	}
	sum := 0
	for _, b := range r.above {
		step, higher := r.weight(b), w
		for range timesIn(taken, b) {
			higher = higher.plus(step[:], 1)
			sum += 2 * many[higher] * r.product(higher[:], b)
		}
	}
	return sum / by
}

// timesIn is how often a root can be taken out of a sum of roots, none left below 0.
func timesIn(taken mark, b []int) int {
	times := math.MaxInt
	for i, v := range b {
		if v > 0 {
			times = min(times, taken[i]/v)
		}
	}
	return times
}
