package tropic

import (
	"facet/api"
	"facet/check"
	"facet/choose"
)

// CheckSquare says whether a square may be.
func CheckSquare(m [][]int) api.Errno {
	if len(m) < 1 || len(m) > api.MaxSide {
		return api.ErrCount
	}
	for _, row := range m {
		if e := check.List(row, len(m), api.MaxEntry); e != api.OK {
			return e
		}
	}
	return api.OK
}

// Prices of rows and columns: none together above an entry; and all together as much as the least choice (one of each row, one of each column).
func Prices(m [][]int) (rows, columns []int, e api.Errno) {
	_, choice, e := Least(m)
	if e != api.OK {
		return nil, nil, e
	}
	columns = columnPrices(m, choice)
	for i, at := range choice {
		rows = append(rows, m[i][at]-columns[at])
	}
	return rows, columns, api.OK
}

// columnPrices are such that each row's number less its column's price is nowhere below
// what it is at the choice. They go down, as lengths of ways do from column to column; a
// way round that goes down for ever would be a lesser choice, so that as many rounds as
// there are columns are enough.
func columnPrices(m [][]int, choice []int) []int {
	prices := make([]int, len(m))
	for range m {
		for i, at := range choice {
			for j := range prices {
				prices[j] = min(prices[j], prices[at]+m[i][j]-m[i][at])
			}
		}
	}
	return prices
}

// Least is the least choice: one of each row, one of each column: its sum, and of those that have it the first in order.
func Least(m [][]int) (sum int, choice []int, e api.Errno) {
	if e := CheckSquare(m); e != api.OK {
		return 0, nil, e
	}
	sumOf := func(order []int) int {
		all := 0
		for i, at := range order {
			all += m[i][at]
		}
		return all
	}
	for order := range choose.Orders(len(m)) {
		if s := sumOf(order); choice == nil || s < sum {
			sum, choice = s, order
		}
	}
	return sum, choice, api.OK
}
