package named

import (
	"slices"

	"facet/api"
	"facet/check"
	"facet/choose"
)

// CheckSquare says whether a square may be parted: nothing below 0, each row and column as much.
func CheckSquare(m [][]int) api.Errno {
	if len(m) < 1 || len(m) > api.MaxSide {
		return api.ErrCount
	}
	for _, row := range m {
		if e := check.Within(row, len(m), 0, api.MaxEntry); e != api.OK {
			return e
		}
	}
	if !isEven(m) {
		return api.ErrForm
	}
	return api.OK
}

// isEven: have all rows and all columns of a square the same sum?
func isEven(m [][]int) bool {
	sums := make([]int, 2*len(m)) // of rows, then of columns
	for i, row := range m {
		for j, v := range row {
			sums[i] += v
			sums[len(m)+j] += v
		}
	}
	return slices.Min(sums) == slices.Max(sums)
}

// Parts: a square as a sum of orders: the first, in order, that it has room for, as often as that is so, again and again.
//
// An order that the square has no room for it has none for later on, as its numbers
// only go down: each comes up once. While all is not 0, there is one (Birkhoff).
func Parts(m [][]int) (orders [][]int, many []int, e api.Errno) {
	if e := CheckSquare(m); e != api.OK {
		return nil, nil, e
	}
	var rest [][]int
	for _, row := range m {
		rest = append(rest, slices.Clone(row))
	}
	for order := range choose.Orders(len(m)) {
		if often := room(rest, order); often > 0 {
			take(rest, order, often)
			orders, many = append(orders, order), append(many, often)
		}
	}
	return orders, many, api.OK
}

// room is the least of a choice's numbers: as often the choice is in the square.
func room(m [][]int, order []int) int {
	least := m[0][order[0]]
	for i, at := range order {
		least = min(least, m[i][at])
	}
	return least
}

func take(m [][]int, order []int, often int) {
	for i, at := range order {
		m[i][at] -= often
	}
}
