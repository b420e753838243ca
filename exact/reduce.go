package exact

import "slices"

// reduced is a matrix in which each row of a pivot has value in its pivot's
// column, and all other rows have 0 there.
type reduced struct {
	rows   [][]int
	pivots []int // columns, rising; the i-th is that of row i
	value  int
	sign   int // -1, if rows were swapped an odd number of times
}

// Rank is how many rows of so many numbers don't hang on others.
func Rank(m [][]int, width int) int {
	return len(reduce(m, width).pivots)
}

// Det is the determinant of a square.
func Det(m [][]int) int {
	r := reduce(m, len(m))
	if len(r.pivots) < len(m) {
		return 0
	}
	return r.sign * r.value
}

// Normal is the one direction whose products with all rows are 0: primitive,
// its first number that is not 0 above 0. False: there is none, or not one alone.
func Normal(m [][]int, width int) ([]int, bool) {
	directions := Kernel(m, width)
	if len(directions) != 1 {
		return nil, false
	}
	return upright(directions[0]), true
}

// Kernel has directions that don't hang on each other, primitive, of which all those
// are made whose products with all rows are 0.
func Kernel(m [][]int, width int) [][]int {
	r := reduce(m, width)
	var out [][]int
	for free := range width {
		if slices.Contains(r.pivots, free) {
			continue
		}
		direction := make([]int, width)
		direction[free] = r.value
		for i, column := range r.pivots {
			direction[column] = -r.rows[i][free]
		}
		out = append(out, Primitive(direction))
	}
	return out
}

// reduce follows Bareiss, above the pivots, too: each number that it meets is a
// minor of m, so all divisions come out even and nothing grows further.
func reduce(m [][]int, width int) reduced {
	r := reduced{rows: make([][]int, 0, len(m)), pivots: make([]int, 0, width), value: 1, sign: 1}
	for _, row := range m {
		r.rows = append(r.rows, slices.Clone(row))
	}
	for column := range width {
		r.pivotIn(column)
	}
	return r
}

func (r *reduced) pivotIn(column int) {
	at := len(r.pivots)
	further := slices.IndexFunc(r.rows[at:], func(row []int) bool { return row[column] != 0 })
	if further < 0 {
		return
	}
	if further > 0 {
		r.rows[at], r.rows[at+further] = r.rows[at+further], r.rows[at]
		r.sign = -r.sign
	}
	pivot := r.rows[at]
	for i, row := range r.rows {
		if i != at {
			clearColumn(row, pivot, column, r.value)
		}
	}
	r.value = pivot[column]
	r.pivots = append(r.pivots, column)
}

func clearColumn(row, pivot []int, column, value int) {
	keep, take := pivot[column], row[column]
	for j := range row {
		row[j] = (keep*row[j] - take*pivot[j]) / value
	}
}

func upright(l []int) []int {
	first := slices.IndexFunc(l, func(v int) bool { return v != 0 })
	if first >= 0 && l[first] < 0 {
		return Negated(l)
	}
	return l
}
