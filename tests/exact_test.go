package tests

import (
	"math"
	"slices"
	"testing"

	"facet/exact"
)

func TestExactAnyBeyond(t *testing.T) {
	for _, c := range []struct {
		l    []int
		want bool
	}{
		{nil, false},
		{[]int{3, -3, 0}, false},
		{[]int{0, 4}, true},
		{[]int{-4, 0}, true},
		{[]int{math.MinInt}, true},
		{[]int{math.MaxInt}, true},
	} {
		if got := exact.AnyBeyond(c.l, 3); got != c.want {
			t.Errorf("exact.AnyBeyond(%v, 3) = %v", c.l, got)
		}
	}
}

func TestExactProduct(t *testing.T) {
	if got := exact.Product([]int{1, -2, 3}, []int{4, 5, 6}); got != 12 {
		t.Errorf("Product = %d, want 12", got)
	}
	if got := exact.Product(nil, nil); got != 0 {
		t.Errorf("Product of nothing = %d", got)
	}
}

func TestExactTotal(t *testing.T) {
	if got := exact.Total([]int{3, -5, 1, 0}); got != -1 {
		t.Errorf("Total = %d, want -1", got)
	}
	if got := exact.Total(nil); got != 0 {
		t.Errorf("Total of nothing = %d", got)
	}
}

func TestExactPrimitiveAndNegated(t *testing.T) {
	l := []int{-6, 0, 9}
	divided, turned := exact.Primitive(l), exact.Negated(l)
	if !slices.Equal(divided, []int{-2, 0, 3}) || !slices.Equal(turned, []int{6, 0, -9}) {
		t.Errorf("Primitive, Negated = %v, %v", divided, turned)
	}
	if !slices.Equal(l, []int{-6, 0, 9}) || !apart(l, divided, turned, exact.Primitive([]int{0})) {
		t.Error("the list was changed, or is shared")
	}
}

func TestExactDifferences(t *testing.T) {
	points := [][]int{{1, 2}, {4, 2}, {1, 1}}
	if got := exact.Differences(points); !alike(got, [][]int{{3, 0}, {0, -1}}) {
		t.Errorf("Differences = %v", got)
	}
	if got := exact.Differences(points[:1]); len(got) != 0 {
		t.Errorf("Differences of one point = %v", got)
	}
	if !alike(points, [][]int{{1, 2}, {4, 2}, {1, 1}}) {
		t.Error("the points were changed")
	}
}

// Of no rows at all the rank is 0, and one number's normal is 1.
func TestExactNoRows(t *testing.T) {
	if got := exact.Rank(nil, 3); got != 0 {
		t.Errorf("Rank = %d", got)
	}
	if got := exact.Det(nil); got != 1 {
		t.Errorf("Det = %d", got)
	}
	if got, ok := exact.Normal(nil, 1); !ok || !slices.Equal(got, []int{1}) {
		t.Errorf("Normal = %v, %v", got, ok)
	}
	if got, ok := exact.Normal(nil, 2); ok || got != nil {
		t.Errorf("Normal = %v, %v", got, ok)
	}
}

// The greatest differences of points that may be stay whole and exact.
func TestExactGreatNumbers(t *testing.T) {
	square := [][]int{{-200, 200, 200, 200}, {200, -200, 200, 200}, {200, 200, -200, 200}, {200, 200, 200, -200}}
	if got := exact.Det(square); got != -16*200*200*200*200 {
		t.Errorf("Det = %d", got)
	}
	tall := slices.Concat(square, square, square, square, square, square)
	if got := exact.Rank(tall, 4); got != 4 {
		t.Errorf("Rank = %d", got)
	}
	if got, ok := exact.Normal(square[:3], 4); !ok || !slices.Equal(got, []int{1, 1, 1, -1}) {
		t.Errorf("Normal = %v, %v", got, ok)
	}
}
