// Package exact reckons with lists of whole numbers, without rounding.
//
// It sets no bounds of its own: a caller hands in numbers so small that a
// determinant of them, times another one, is still an int.
package exact

import "slices"

// AnyBeyond asks either way without turning a sign: the least int has no opposite.
func AnyBeyond(l []int, most int) bool {
	return slices.ContainsFunc(l, func(v int) bool { return v > most || v < -most })
}

// Product is the sum of what two lists of one length give, number by number.
func Product(a, x []int) int {
	sum := 0
	for i := range a {
		sum += a[i] * x[i]
	}
	return sum
}

// Total is what all numbers of a list come to.
func Total(l []int) int {
	total := 0
	for _, v := range l {
		total += v
	}
	return total
}

// Sum is a fresh list: two lists of one length, added number by number.
func Sum(a, x []int) []int {
	sum := slices.Clone(a)
	for i := range sum {
		sum[i] += x[i]
	}
	return sum
}

// Primitive is a fresh list: l, divided by the greatest number that divides all of it.
func Primitive(l []int) []int {
	divisor := commonDivisor(l)
	if divisor == 0 {
		return slices.Clone(l)
	}
	return mapped(l, func(v int) int { return v / divisor })
}

// Negated is a fresh list: l with all signs turned.
func Negated(l []int) []int {
	return mapped(l, func(v int) int { return -v })
}

// Differences are what the points behind the first one have more than it.
func Differences(points [][]int) [][]int {
	rows := make([][]int, 0, len(points)-1)
	for _, x := range points[1:] {
		row := slices.Clone(x)
		for i := range row {
			row[i] -= points[0][i]
		}
		rows = append(rows, row)
	}
	return rows
}

// InOrder sorts lists, in their own memory, and keeps each once.
func InOrder(lists [][]int) [][]int {
	slices.SortFunc(lists, slices.Compare[[]int])
	return slices.CompactFunc(lists, slices.Equal[[]int])
}

func mapped(l []int, by func(int) int) []int {
	out := make([]int, len(l))
	for i, v := range l {
		out[i] = by(v)
	}
	return out
}

// commonDivisor is 0 just if all of the list is 0.
func commonDivisor(l []int) int {
	divisor := 0
	for _, v := range l {
		for v != 0 {
			divisor, v = v, divisor%v
		}
	}
	return max(divisor, -divisor)
}
