package count

import "slices"

// lessTheOneAhead takes the one ahead away from each number, so many times over. With
// the numbers as coefficients that is (1 - x) times each time, and (1 - x)^(d + 1) has
// the signs and the choices of P2.
func lessTheOneAhead(many []int, times int) []int {
	out := slices.Clone(many)
	for range times {
		for i := len(out) - 1; i > 0; i-- {
			out[i] -= out[i-1]
		}
	}
	return out
}

// polynomial is the sum over i of delta's i-th number times (k + d - i) .. (k - i + 1),
// which is 1 2 .. d times (k + d - i over d); the lowest coefficient first.
func polynomial(delta []int, d int) []int {
	sum := make([]int, d+1)
	for i, many := range delta {
		for power, much := range falling(d-i, d) {
			sum[power] += many * much
		}
	}
	return sum
}

// falling is (k + top) (k + top - 1) .., so many of them.
func falling(top, many int) []int {
	out := []int{1}
	for i := range many {
		out = append(out, 0)
		for power := len(out) - 1; power >= 0; power-- {
			out[power] *= top - i
			if power > 0 {
				out[power] += out[power-1]
			}
		}
	}
	return out
}
