package tests

import (
	"slices"
	"testing"

	"facet/api"
	"facet/exact"
	"facet/hull"
	"facet/wrap"
)

// rowsByChoices goes through all choices of as many points as a row needs.
func rowsByChoices(points [][]int) [][]int {
	dim := len(points[0])
	var rows [][]int
	for _, c := range choices(len(points), dim) {
		chosen := cornersOfCell(points, c)
		a, ok := exact.Normal(exact.Differences(chosen), dim)
		if !ok {
			continue
		}
		for _, a := range [][]int{a, exact.Negated(a)} {
			b := exact.Product(a, chosen[0])
			if !slices.ContainsFunc(points, func(x []int) bool { return exact.Product(a, x) > b }) {
				rows = append(rows, append(slices.Clone(a), b))
			}
		}
	}
	slices.SortFunc(rows, slices.Compare[[]int])
	return slices.CompactFunc(rows, slices.Equal[[]int])
}

// B2: no row is missing.
func TestWrapRowsByChoices(t *testing.T) {
	d := die(101)
	bodies := someBodies(102)
	for round := range 80 {
		dim := 1 + round%4
		bodies = append(bodies, drawn(&d, dim),
			bodyOf(dim, append(simplex(dim, -100), d.lists(7, dim, api.MaxCoord)...)...))
	}
	for _, p := range bodies {
		if got, e := hull.Rows(p); e != api.OK || !alike(got, rowsByChoices(p.Points)) {
			t.Errorf("hull.Rows(%v) = %v, %d, want %v", p, got, e, rowsByChoices(p.Points))
		}
	}
}

// What a sum may have: twice as great numbers, and more points than a polytope.
func TestWrapGreatNumbers(t *testing.T) {
	d := die(103)
	for round := range 12 {
		dim := 1 + round%4
		points := append(simplex(dim, -200), d.lists(22-4*dim, dim, 200)...)
		for _, x := range cube(dim, -200, 200).Points[:dim] {
			points = append(points, x)
		}
		want := rowsByChoices(points)
		if got := wrap.Rows(points); !alike(got, want) {
			t.Errorf("wrap.Rows(%v) = %v, want %v", points, got, want)
		}
	}
	var many [][]int
	for range 8 {
		many = append(many, cube(3, -200, 200).Points...)
	}
	if got := wrap.Corners(many); len(got) != 8 || len(wrap.Rows(many)) != 6 {
		t.Errorf("wrap.Corners(%v) = %v", many, got)
	}
}

func TestWrapAgainst(t *testing.T) {
	for _, c := range []struct {
		x    []int
		want int
	}{
		{[]int{0, 0}, -1},
		{[]int{1, 1}, 0},
		{[]int{3, 0}, 0},
		{[]int{2, 1}, 1},
	} {
		if got := wrap.Against([]int{1, 2, 3}, c.x); got != c.want {
			t.Errorf("wrap.Against(1 2 3, %v) = %d, want %d", c.x, got, c.want)
		}
	}
}

// Each direction of a kernel has the product 0 with all rows, and there are as many
// as the rank leaves.
func TestExactKernel(t *testing.T) {
	d := die(104)
	for round := range 200 {
		width := 1 + round%5
		m := hangingRows(&d, d.below(6), width)
		kernel := exact.Kernel(m, width)
		if len(kernel) != width-exact.Rank(m, width) || exact.Rank(kernel, width) != len(kernel) || !apart(slices.Concat(m, kernel)...) {
			t.Errorf("exact.Kernel(%v, %d) = %v", m, width, kernel)
		}
		for _, k := range kernel {
			if !slices.Equal(k, exact.Primitive(k)) || slices.ContainsFunc(m, func(r []int) bool { return exact.Product(r, k) != 0 }) {
				t.Errorf("exact.Kernel(%v, %d) = %v", m, width, kernel)
			}
		}
	}
}

func TestExactSum(t *testing.T) {
	a, x := roomy([]int{1, -2}), roomy([]int{3, 2})
	if got := exact.Sum(a, x); !slices.Equal(got, []int{4, 0}) || !apart(a, x, got) || !untouched(a, []int{1, -2}) || !untouched(x, []int{3, 2}) {
		t.Errorf("exact.Sum(%v, %v) = %v", a, x, got)
	}
}
