package tests

import (
	"slices"
	"testing"

	"facet/api"
	"facet/convex"
)

// crossing is where the lines a b and c d meet, as x, y, w (x by w, y by w; w above 0); false, if they go the same way.
func crossing(a, b, c, d []int) ([]int, bool) {
	across := func(u, v []int) int { return u[0]*v[1] - u[1]*v[0] }
	p, q := []int{b[0] - a[0], b[1] - a[1]}, []int{d[0] - c[0], d[1] - c[1]}
	w := across(p, q)
	if w == 0 {
		return nil, false
	}
	t := across([]int{c[0] - a[0], c[1] - a[1]}, q)
	place := []int{a[0]*w + t*p[0], a[1]*w + t*p[1], w}
	if w < 0 {
		place = scaled([][]int{place}, -1)[0]
	}
	return place, true
}

// placesToLook: if parts share a place, they share one of these, as x, y, w: a point, or where two lines of points meet.
func placesToLook(points [][]int) [][]int {
	var out [][]int
	for _, x := range points {
		out = append(out, []int{x[0], x[1], 1})
	}
	for _, e := range choices(len(points), 2) {
		for _, f := range choices(len(points), 2) {
			if place, ok := crossing(points[e[0]], points[e[1]], points[f[0]], points[f[1]]); ok && slices.Compare(e, f) < 0 {
				out = append(out, place)
			}
		}
	}
	return out
}

// sharePlace: is there a place that lies between the points of each of the parts 0, 1, 2?
func sharePlace(points [][]int, parts []int) bool {
	sorted := make([][][]int, 3)
	for i, x := range points {
		sorted[parts[i]] = append(sorted[parts[i]], x)
	}
	return slices.ContainsFunc(placesToLook(points), func(place []int) bool {
		return !slices.ContainsFunc(sorted, func(part [][]int) bool {
			return len(part) == 0 || !isBetween(scaled(part, place[2]), place[:2])
		})
	})
}

// The helper itself.
func TestSharePlace(t *testing.T) {
	star := [][]int{{0, 0}, {4, 0}, {0, 4}, {4, 4}, {2, -1}, {2, 5}, {3, 2}}
	for _, c := range []struct {
		what   string
		points [][]int
		parts  []int
		want   bool
	}{
		{"two lines cross in a triangle", star, []int{0, 1, 1, 0, 2, 2, 2}, true},
		{"two lines that don't", star, []int{0, 0, 1, 1, 2, 2, 2}, false},
		{"they cross outside the triangle", [][]int{{0, 0}, {4, 0}, {0, 4}, {4, 4}, {3, -1}, {3, 5}, {4, 2}}, []int{0, 1, 1, 0, 2, 2, 2}, false},
		{"no points in one part", star, []int{0, 1, 1, 0, 1, 1, 1}, false},
		{"one point, again and again", repeat([]int{5, 5}, 7), []int{0, 1, 2, 2, 2, 2, 2}, true},
		{"no points in one part of these", repeat([]int{5, 5}, 7), []int{0, 1, 1, 1, 1, 1, 1}, false},
		{"on a line", [][]int{{0, 0}, {1, 1}, {2, 2}, {3, 3}, {4, 4}, {5, 5}, {6, 6}}, []int{0, 1, 2, 0, 2, 1, 0}, true},
		{"on a line, side by side", [][]int{{0, 0}, {1, 1}, {2, 2}, {3, 3}, {4, 4}, {5, 5}, {6, 6}}, []int{0, 0, 1, 1, 1, 2, 2}, false},
		{"one place in two triangles", [][]int{{1, 1}, {0, 0}, {3, 1}, {0, 3}, {2, 0}, {2, 3}, {0, 1}}, []int{0, 1, 1, 1, 2, 2, 2}, true},
		{"three lines, two by two", [][]int{{0, 0}, {3, 0}, {0, -1}, {0, 3}, {2, -1}, {-1, 2}, {-1, 2}}, []int{0, 0, 1, 1, 2, 2, 2}, false},
	} {
		if got := sharePlace(c.points, c.parts); got != c.want {
			t.Errorf("%s: %v, %v: %v, want %v", c.what, c.points, c.parts, got, c.want)
		}
	}
}

// checkTverberg: are there three parts that share a place?
func checkTverberg(t *testing.T, points [][]int) {
	t.Helper()
	parts, e := convex.Tverberg(points)
	if e != api.OK || len(parts) != 7 || slices.Min(parts) != 0 || slices.Max(parts) != 2 || !sharePlace(points, parts) {
		t.Errorf("convex.Tverberg(%v) = %v, %d: no three parts that share a place", points, parts, e)
	}
}

// J3
func TestTverberg(t *testing.T) {
	for _, points := range [][][]int{
		repeat([]int{5, -5}, 7),
		{{0, 0}, {1, 1}, {2, 2}, {3, 3}, {4, 4}, {5, 5}, {6, 6}},
		{{6, 0}, {-3, 0}, {20, 0}, {-20, 0}, {1, 0}, {1, 0}, {1, 0}},
		{{0, 0}, {0, 0}, {1, 0}, {1, 0}, {0, 1}, {0, 1}, {20, 20}},
		{{0, 0}, {0, 0}, {0, 0}, {1, 0}, {1, 0}, {1, 0}, {0, 1}},
		{{0, 0}, {0, 0}, {0, 0}, {0, 0}, {1, 0}, {0, 1}, {1, 1}},
		{{20, 20}, {20, -20}, {-20, 20}, {-20, -20}, {19, 20}, {-20, 19}, {-19, -20}},
		{{0, 20}, {16, 12}, {19, -5}, {9, -18}, {-9, -18}, {-19, -5}, {-16, 12}},
		{{0, 0}, {20, 0}, {10, 17}, {-10, 17}, {-20, 0}, {-10, -17}, {10, -17}},
		{{-3, 9}, {-2, 4}, {-1, 1}, {0, 0}, {1, 1}, {2, 4}, {3, 9}},
		{{0, 0}, {1, 0}, {2, 0}, {0, 1}, {1, 1}, {2, 1}, {0, 2}},
		{{0, 0}, {1, 0}, {0, 1}, {20, 20}, {19, 20}, {20, 19}, {-20, 20}},
		{{0, 0}, {20, 1}, {-20, 1}, {0, 1}, {0, 2}, {0, 3}, {0, 4}},
	} {
		checkTverberg(t, points)
	}
}

// J3, and the whole: there is always one way.
func TestTverbergAlways(t *testing.T) {
	d := die(153)
	for round := range 240 {
		points := d.lists(7, 2, []int{1, 2, 4, 9, api.MaxCut}[round%5])
		if round%6 == 0 {
			for i := range points {
				points[i][1] = points[i][0] * (round % 3) / 2
			}
		}
		if round%4 == 0 {
			points[d.below(7)] = slices.Clone(points[d.below(7)])
		}
		checkTverberg(t, points)
	}
}

// J3: in whatever order the points are told.
func TestTverbergInAnotherOrder(t *testing.T) {
	d := die(154)
	points := [][]int{{0, 20}, {16, 12}, {19, -5}, {9, -18}, {-9, -18}, {-19, -5}, {-16, 12}}
	for range 30 {
		checkTverberg(t, cornersOfCell(points, shuffled(&d, 7)))
	}
}

// J3: each error, and which is told first.
func TestTverbergErrors(t *testing.T) {
	for _, c := range []struct {
		what   string
		points [][]int
		want   api.Errno
	}{
		{"one", repeat([]int{1, 2}, 1), api.ErrCount},
		{"six", repeat([]int{1, 2}, 6), api.ErrCount},
		{"eight", repeat([]int{1, 2}, 8), api.ErrCount},
		{"twelve", repeat([]int{1, 2}, 12), api.ErrCount},
		{"of one dimension", repeat([]int{1}, 7), api.ErrDim},
		{"of three", repeat([]int{1, 2, 3}, 7), api.ErrDim},
		{"the dimension ahead of the count", repeat([]int{1, 2, 3}, 6), api.ErrDim},
		{"the form ahead of the dimension", append(repeat([]int{1}, 6), []int{1, 2}), api.ErrForm},
		{"the value ahead of the dimension", append(repeat([]int{1}, 6), []int{21}), api.ErrValue},
		{"the value ahead of the count", [][]int{{0, -21}}, api.ErrValue},
		{"as many as may be, ahead of the dimension", repeat([]int{1}, 13), api.ErrCount},
	} {
		if got, e := convex.Tverberg(c.points); e != c.want || len(got) != 0 {
			t.Errorf("%s: convex.Tverberg(%v) = %v, %d, want error %d", c.what, c.points, got, e, c.want)
		}
	}
}

// Z2
func TestTverbergLists(t *testing.T) {
	was := [][]int{{0, 0}, {20, 0}, {10, 17}, {-10, 17}, {-20, 0}, {-10, -17}, {10, -17}}
	points := roomyLists(was)
	parts, e := convex.Tverberg(points)
	again, _ := convex.Tverberg(points)
	if e != api.OK || !slices.Equal(parts, again) || !untouchedLists(points, was) {
		t.Errorf("convex.Tverberg(%v) = %v, %d, and then %v", points, parts, e, again)
	}
	if !apart(append(slices.Clone(points), parts, again)...) {
		t.Error("lists share memory")
	}
}
