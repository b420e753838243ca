package poset

import "facet/set"

// moebius is the number of k with i. What isn't i nor above it has 0, so all below k can be added.
func moebius(above []set.Set, i, k int) int {
	if k == i {
		return 1
	}
	if !isIn(k, above[i]) {
		return 0
	}
	sum := 0
	for j := range above {
		if isIn(k, above[j]) {
			sum += moebius(above, i, j)
		}
	}
	return -sum
}

// ways: in how many of them does each thing get a number below k, so that it fits with that of each one above it?
func ways(above []set.Set, k int, fits func(low, high int) bool) int {
	many := 0
	var given []int
	var give func()
	give = func() {
		thing := len(given)
		if thing == len(above) {
			many++
			return
		}
	next:
		for number := range k {
			for other, its := range given {
				if isIn(other, above[thing]) && !fits(number, its) || isIn(thing, above[other]) && !fits(its, number) {
					continue next
				}
			}
			given = append(given, number)
			give()
			given = given[:thing]
		}
	}
	give()
	return many
}
