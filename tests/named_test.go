package tests

import (
	"math"
	"slices"
	"testing"

	"facet/api"
	"facet/exact"
	"facet/face"
	"facet/named"
)

type namedKind struct {
	name string
	of   func(d int) (api.Polytope, api.Errno)
	most int
}

func namedKinds() []namedKind {
	return []namedKind{
		{"Simplex", named.Simplex, 4},
		{"Cube", named.Cube, 4},
		{"Cross", named.Cross, 4},
		{"Orders", named.Orders, 3},
		{"Trees", named.Trees, 3},
	}
}

// Y1
func TestNamedErrors(t *testing.T) {
	for _, k := range namedKinds() {
		for _, d := range []int{math.MinInt, -4, -1, 0, 1, 2, 3, 4, 5, 6, 63, 64, 1 << 32, math.MaxInt} {
			p, e := k.of(d)
			if d >= 1 && d <= k.most {
				if e != api.OK || p.Dim != d {
					t.Errorf("named.%s(%d) = %v, %d", k.name, d, p, e)
				}
			} else if e != api.ErrDim || p.Dim != 0 || len(p.Points) != 0 {
				t.Errorf("named.%s(%d) = %v, %d, want error %d", k.name, d, p, e, api.ErrDim)
			}
		}
	}
}

// Y1
func TestNamedPoints(t *testing.T) {
	for _, c := range []struct {
		what string
		of   func(d int) (api.Polytope, api.Errno)
		want api.Polytope
	}{
		{"Simplex", named.Simplex, bodyOf(1, []int{0}, []int{1})},
		{"Simplex", named.Simplex, bodyOf(2, []int{0, 0}, []int{1, 0}, []int{0, 1})},
		{"Simplex", named.Simplex, bodyOf(3, []int{0, 0, 0}, []int{1, 0, 0}, []int{0, 1, 0}, []int{0, 0, 1})},
		{"Simplex", named.Simplex, bodyOf(4, []int{0, 0, 0, 0}, []int{1, 0, 0, 0}, []int{0, 1, 0, 0}, []int{0, 0, 1, 0}, []int{0, 0, 0, 1})},
		{"Cube", named.Cube, bodyOf(1, []int{0}, []int{1})},
		{"Cube", named.Cube, bodyOf(2, []int{0, 0}, []int{0, 1}, []int{1, 0}, []int{1, 1})},
		{"Cube", named.Cube, bodyOf(3, []int{0, 0, 0}, []int{0, 0, 1}, []int{0, 1, 0}, []int{0, 1, 1}, []int{1, 0, 0}, []int{1, 0, 1}, []int{1, 1, 0}, []int{1, 1, 1})},
		{"Cross", named.Cross, bodyOf(1, []int{-1}, []int{1})},
		{"Cross", named.Cross, bodyOf(2, []int{-1, 0}, []int{1, 0}, []int{0, -1}, []int{0, 1})},
		{"Cross", named.Cross, bodyOf(3, []int{-1, 0, 0}, []int{1, 0, 0}, []int{0, -1, 0}, []int{0, 1, 0}, []int{0, 0, -1}, []int{0, 0, 1})},
		{"Orders", named.Orders, bodyOf(1, []int{1}, []int{2})},
		{"Orders", named.Orders, bodyOf(2, []int{1, 2}, []int{1, 3}, []int{2, 1}, []int{2, 3}, []int{3, 1}, []int{3, 2})},
		{"Trees", named.Trees, bodyOf(1, []int{1}, []int{2})},
		{"Trees", named.Trees, bodyOf(2, []int{1, 2}, []int{1, 4}, []int{2, 1}, []int{3, 1}, []int{3, 2})},
	} {
		if p, e := c.of(c.want.Dim); e != api.OK || p.Dim != c.want.Dim || !alike(p.Points, c.want.Points) {
			t.Errorf("named.%s(%d) = %v, %d, want %v", c.what, c.want.Dim, p, e, c.want)
		}
	}
}

// byHeights has the numbers of the tree in which of each run of knots the one that comes last in the order stands highest.
func byHeights(order []int) []int {
	var out []int
	for i, v := range order {
		left, right := 1, 1
		for left <= i && order[i-left] < v {
			left++
		}
		for i+right < len(order) && order[i+right] < v {
			right++
		}
		out = append(out, left*right)
	}
	return out
}

// namedByWords: all lists of the kind, as Y1 tells them, in order where it asks for that.
func namedByWords(name string, d int) [][]int {
	var out [][]int
	switch name {
	case "Simplex":
		out = simplex(d, 1)
	case "Cube":
		out = cube(d, 0, 1).Points
		slices.SortFunc(out, slices.Compare[[]int])
	case "Cross":
		for _, x := range cross(d, 1).Points {
			out = append(out, exact.Negated(x)) // as cross has 1 ahead of -1
		}
	case "Orders":
		for _, order := range ordersOf(d + 1) {
			out = append(out, exact.Sum(order, slices.Repeat([]int{1}, d+1))[:d])
		}
		slices.SortFunc(out, slices.Compare[[]int])
	case "Trees":
		for _, order := range ordersOf(d + 1) { // each tree comes of some order
			out = append(out, byHeights(order)[:d])
		}
		slices.SortFunc(out, slices.Compare[[]int])
		out = slices.CompactFunc(out, slices.Equal[[]int])
	}
	return out
}

// Y1
func TestNamedByWords(t *testing.T) {
	many := map[string][]int{"Simplex": {2, 3, 4, 5}, "Cube": {2, 4, 8, 16}, "Cross": {2, 4, 6, 8}, "Orders": {2, 6, 24}, "Trees": {2, 5, 14}}
	for _, k := range namedKinds() {
		for d := 1; d <= k.most; d++ {
			want := namedByWords(k.name, d)
			if p, e := k.of(d); e != api.OK || !alike(p.Points, want) || len(want) != many[k.name][d-1] {
				t.Errorf("named.%s(%d) = %v, %d, want %v", k.name, d, p, e, want)
			}
		}
	}
}

// The whole: how many faces the polytopes have that have names.
func TestNamedCounts(t *testing.T) {
	for _, c := range []struct {
		what string
		of   func(d int) (api.Polytope, api.Errno)
		want [][]int
	}{
		{"Simplex", named.Simplex, [][]int{{1, 2, 1}, {1, 3, 3, 1}, {1, 4, 6, 4, 1}, {1, 5, 10, 10, 5, 1}}},
		{"Cube", named.Cube, [][]int{{1, 2, 1}, {1, 4, 4, 1}, {1, 8, 12, 6, 1}, {1, 16, 32, 24, 8, 1}}},
		{"Cross", named.Cross, [][]int{{1, 2, 1}, {1, 4, 4, 1}, {1, 6, 12, 8, 1}, {1, 8, 24, 32, 16, 1}}},
		{"Orders", named.Orders, [][]int{{1, 2, 1}, {1, 6, 6, 1}, {1, 24, 36, 14, 1}}},
		{"Trees", named.Trees, [][]int{{1, 2, 1}, {1, 5, 5, 1}, {1, 14, 21, 9, 1}}},
	} {
		for i, want := range c.want {
			p, _ := c.of(i + 1)
			if got, e := face.Counts(p); e != api.OK || !slices.Equal(got, want) {
				t.Errorf("named.%s(%d) has faces %v, %d, want %v", c.what, i+1, got, e, want)
			}
		}
	}
}

// Z2: a point is a list of its own, and has no room beyond it.
func TestNamedLists(t *testing.T) {
	for _, k := range namedKinds() {
		for d := 1; d <= k.most; d++ {
			p, _ := k.of(d)
			again, _ := k.of(d)
			was := copied(p.Points)
			if !apart(p.Points, again.Points) || !apart(slices.Concat(p.Points, again.Points)...) {
				t.Errorf("named.%s(%d): lists share memory", k.name, d)
			}
			for _, x := range p.Points {
				if cap(x) != d {
					t.Errorf("named.%s(%d): room for %d beyond %v", k.name, d, cap(x)-d, x)
				}
				_ = append(x, mark)
			}
			if !alike(p.Points, was) {
				t.Errorf("named.%s(%d): what stands behind one point is in another", k.name, d)
			}
			for _, x := range p.Points {
				x[0] = mark
			}
			if third, _ := k.of(d); !alike(third.Points, was) || !alike(again.Points, was) {
				t.Errorf("named.%s(%d): %v, then %v", k.name, d, was, third.Points)
			}
		}
	}
}
