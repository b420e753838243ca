// Package check says what is wrong with what the layers are given.
package check

import (
	"slices"

	"facet/api"
)

// List: ErrForm, unless it has so many numbers; ErrValue, if one is beyond most.
func List(l []int, many, most int) api.Errno { return Within(l, many, -most, most) }

// Within: ErrForm, unless the list has so many numbers; ErrValue, unless each is least to most.
func Within(l []int, many, least, most int) api.Errno {
	if len(l) != many {
		return api.ErrForm
	}
	if slices.ContainsFunc(l, func(v int) bool { return v < least || v > most }) {
		return api.ErrValue
	}
	return api.OK
}
