package weight

import "slices"

// counted has of each sum of simple roots, from 0 up to most, in how many ways it is a sum
// of roots above 0. They stand in order.
type counted struct {
	most []int
	ways []int
}

// waysUpTo counts them; nothing is there, if most has a number below 0.
func waysUpTo(above [][]int, most []int) counted {
	sums := 1
	for _, v := range most {
		sums *= max(v+1, 0)
	}
	t := counted{most, make([]int, sums)}
	if sums > 0 {
		t.ways[0] = 1
	}
	for _, b := range above {
		t.add(b)
	}
	return t
}

// add counts the ways that have a root, too, any number of times: what it is added to has
// been counted with it already, as it stands ahead.
func (t counted) add(root []int) {
	step := t.place(root)
	for place := range t.ways {
		if t.holds(place, root) {
			t.ways[place] += t.ways[place-step]
		}
	}
}

// place of a sum; of any list, how much further a sum stands when it is added.
func (t counted) place(b []int) int {
	place := 0
	for i, v := range b {
		place = place*(t.most[i]+1) + v
	}
	return place
}

// holds: can b be taken from the sum at a place, nothing left below 0?
func (t counted) holds(place int, b []int) bool {
	for i, v := range slices.Backward(b) {
		wide := t.most[i] + 1
		if place%wide < v {
			return false
		}
		place /= wide
	}
	return true
}

// of is in how many ways a sum is one of roots above 0, if none of its numbers is above
// the most that was counted.
func (t counted) of(b []int) int {
	if slices.Min(b) < 0 {
		return 0
	}
	return t.ways[t.place(b)]
}
