// Package set has sets of numbers from 0 to 63.
package set

import "math/bits"

// Set has the number i in it, if its bit i is 1.
type Set uint64

// Of is the set of a list's numbers, each of which is 0 to 63.
func Of(list []int) Set {
	var s Set
	for _, v := range list {
		s |= One(v)
	}
	return s
}

// One is the set of one number, which is 0 to 63.
func One(v int) Set { return 1 << v }

// List has what is in the set, rising, in fresh memory.
func (s Set) List() []int {
	list := make([]int, 0, s.Len())
	for rest := s; rest != 0; rest &= rest - 1 {
		list = append(list, bits.TrailingZeros64(uint64(rest)))
	}
	return list
}

// Len is how many are in the set.
func (s Set) Len() int { return bits.OnesCount64(uint64(s)) }

// In: does the other one have all that is in the set?
func (s Set) In(other Set) bool { return s&^other == 0 }
