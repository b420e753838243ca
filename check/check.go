// Package check says what is wrong with what the layers are given.
package check

import (
	"facet/api"
	"facet/exact"
)

// List: ErrForm, unless it has so many numbers; ErrValue, if one is beyond most.
func List(l []int, many, most int) api.Errno {
	if len(l) != many {
		return api.ErrForm
	}
	if exact.AnyBeyond(l, most) {
		return api.ErrValue
	}
	return api.OK
}
