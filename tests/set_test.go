package tests

import (
	"slices"
	"testing"

	"facet/set"
)

func TestSet(t *testing.T) {
	for _, list := range [][]int{{}, {0}, {63}, {0, 63}, {1, 2, 5}, {3, 31, 32, 33, 62}} {
		s := set.Of(list)
		if got := s.List(); !slices.Equal(got, list) || s.Len() != len(list) {
			t.Errorf("set.Of(%v): %v, %d of them", list, got, s.Len())
		}
	}
	for _, v := range []int{0, 1, 40, 63} {
		if got := set.One(v).List(); !slices.Equal(got, []int{v}) {
			t.Errorf("set.One(%d): %v", v, got)
		}
	}
	if got := set.Of([]int{7, 2, 7}).List(); !slices.Equal(got, []int{2, 7}) {
		t.Errorf("a number that is there twice, and falling ones: %v", got)
	}
}

func TestSetIn(t *testing.T) {
	few, more, other := set.Of([]int{1, 63}), set.Of([]int{1, 4, 63}), set.Of([]int{1, 4})
	for _, c := range []struct {
		a, b set.Set
		want bool
	}{
		{0, 0, true}, {0, few, true}, {few, 0, false}, {few, few, true},
		{few, more, true}, {more, few, false}, {few, other, false}, {other, few, false},
	} {
		if got := c.a.In(c.b); got != c.want {
			t.Errorf("%v in %v: %v", c.a.List(), c.b.List(), got)
		}
	}
}
