package tests

import (
	"slices"
	"testing"

	"facet/api"
	"facet/check"
	"facet/choose"
)

func TestChooseOf(t *testing.T) {
	for n := range 7 {
		for many := range n + 2 {
			got := slices.Collect(choose.Of(n, many))
			want := choices(n, many)
			slices.SortFunc(want, slices.Compare[[]int])
			if !alike(got, want) || !apart(got...) {
				t.Errorf("choose.Of(%d, %d) = %v, want %v", n, many, got, want)
			}
		}
	}
}

// A loop over choices may be left at any of them.
func TestChooseOfLeftEarly(t *testing.T) {
	for last := range 10 {
		var seen [][]int
		for chosen := range choose.Of(5, 3) {
			seen = append(seen, chosen)
			if len(seen) == last+1 {
				break
			}
		}
		if want := slices.Collect(choose.Of(5, 3))[:last+1]; !alike(seen, want) {
			t.Errorf("seen: %v, want %v", seen, want)
		}
	}
}

// ordersOf 0 to n - 1, not in order.
func ordersOf(n int) [][]int {
	if n == 0 {
		return [][]int{{}}
	}
	var out [][]int
	for _, order := range ordersOf(n - 1) {
		for at := range n {
			out = append(out, slices.Insert(slices.Clone(order), at, n-1))
		}
	}
	return out
}

func TestChooseOrders(t *testing.T) {
	for n := range 7 {
		got, want := slices.Collect(choose.Orders(n)), ordersOf(n)
		slices.SortFunc(want, slices.Compare[[]int])
		if !alike(got, want) || !apart(got...) {
			t.Errorf("choose.Orders(%d) = %v, want %v", n, got, want)
		}
	}
}

// A loop over orders may be left at any of them.
func TestChooseOrdersLeftEarly(t *testing.T) {
	all := slices.Collect(choose.Orders(4))
	for last := range all {
		var seen [][]int
		for order := range choose.Orders(4) {
			seen = append(seen, order)
			if len(seen) == last+1 {
				break
			}
		}
		if !alike(seen, all[:last+1]) {
			t.Errorf("seen: %v, want %v", seen, all[:last+1])
		}
	}
}

func TestChoosePicked(t *testing.T) {
	if got := choose.Picked([]string{"a", "b", "c"}, []int{2, 0}); !slices.Equal(got, []string{"c", "a"}) {
		t.Errorf("Picked = %v", got)
	}
	if got := choose.Picked([]string{"a"}, nil); len(got) != 0 {
		t.Errorf("Picked = %v", got)
	}
}

func TestCheckList(t *testing.T) {
	for _, c := range []struct {
		l    []int
		want api.Errno
	}{
		{nil, api.ErrForm},
		{[]int{1}, api.ErrForm},
		{[]int{9, 9, 9}, api.ErrForm},
		{[]int{3, -3}, api.OK},
		{[]int{0, 4}, api.ErrValue},
		{[]int{-4, 0}, api.ErrValue},
	} {
		if got := check.List(c.l, 2, 3); got != c.want {
			t.Errorf("check.List(%v, 2, 3) = %d, want %d", c.l, got, c.want)
		}
	}
}

func TestCheckWithin(t *testing.T) {
	for _, c := range []struct {
		l    []int
		want api.Errno
	}{
		{nil, api.ErrForm},
		{[]int{1}, api.ErrForm},
		{[]int{9, 9, 9}, api.ErrForm},
		{[]int{1, 3}, api.OK},
		{[]int{3, 4}, api.ErrValue},
		{[]int{0, 3}, api.ErrValue},
		{[]int{2, -2}, api.ErrValue},
	} {
		if got := check.Within(c.l, 2, 1, 3); got != c.want {
			t.Errorf("check.Within(%v, 2, 1, 3) = %d, want %d", c.l, got, c.want)
		}
	}
}
