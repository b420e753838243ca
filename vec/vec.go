// Package vec: lists of small whole numbers: see the document's chapter.
package vec

import (
	"facet/api"
	"facet/check"
	"facet/exact"
)

// Check says whether rows may be: as long as each other, of 1 to 5 numbers.
func Check(m [][]int) api.Errno {
	if len(m) < 1 || len(m) > api.MaxPoints {
		return api.ErrCount
	}
	for _, row := range m {
		if e := checkRow(row, len(m[0])); e != api.OK {
			return e
		}
	}
	return api.OK
}

func checkRow(row []int, width int) api.Errno {
	if width < 1 || width > api.MaxDim+1 {
		return api.ErrForm
	}
	return check.List(row, width, api.MaxValue)
}

// Primitive is a list, divided by what all have in common.
func Primitive(l []int) ([]int, api.Errno) {
	if e := Check([][]int{l}); e != api.OK {
		return nil, e
	}
	return exact.Primitive(l), api.OK
}

// Rank is how many rows don't hang on others.
func Rank(m [][]int) (int, api.Errno) {
	if e := Check(m); e != api.OK {
		return 0, e
	}
	return exact.Rank(m, len(m[0])), api.OK
}

// Det is the determinant of a square.
func Det(m [][]int) (int, api.Errno) {
	if e := Check(m); e != api.OK {
		return 0, e
	}
	if len(m) != len(m[0]) {
		return 0, api.ErrForm
	}
	return exact.Det(m), api.OK
}

// Normal is the one direction whose product with all rows is 0: primitive, its first number that is not 0 above 0.
func Normal(m [][]int) ([]int, api.Errno) {
	if e := Check(m); e != api.OK {
		return nil, e
	}
	if len(m[0]) == 1 {
		return nil, api.ErrDim
	}
	normal, ok := exact.Normal(m, len(m[0]))
	if !ok {
		return nil, api.ErrFlat
	}
	return normal, api.OK
}
