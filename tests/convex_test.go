package tests

import (
	"math"
	"slices"
	"testing"

	"facet/api"
	"facet/convex"
)

type convexCheckCase struct {
	what   string
	points [][]int
	want   api.Errno
}

func convexCheckCases() []convexCheckCase {
	return []convexCheckCase{
		{"one number", [][]int{{7}}, api.OK},
		{"of two dimensions", [][]int{{0, 0}, {1, 2}}, api.OK},
		{"of three", [][]int{{0, 0, 0}}, api.OK},
		{"the most points", repeat([]int{1, 2}, 12), api.OK},
		{"the bounds", [][]int{{20, -20}, {-20, 20}}, api.OK},
		{"nil", nil, api.ErrCount},
		{"none", [][]int{}, api.ErrCount},
		{"a point too many", repeat([]int{1}, 13), api.ErrCount},
		{"a point too many, of no form", repeat([]int{21, 1, 1, 1}, 13), api.ErrCount},
		{"no numbers", [][]int{{}}, api.ErrForm},
		{"no numbers, nil", [][]int{nil, nil, nil}, api.ErrForm},
		{"four numbers, though a polytope may have them", simplex(4, 1), api.ErrForm},
		{"four numbers, one beyond", [][]int{{21, 0, 0, 0}}, api.ErrForm},
		{"a number too few", [][]int{{1, 2}, {1}}, api.ErrForm},
		{"a number too many", [][]int{{1, 2}, {1, 2, 3}}, api.ErrForm},
		{"a point that is nil", [][]int{{1, 2}, nil}, api.ErrForm},
		{"above", [][]int{{1, 21}, {1, 1}}, api.ErrValue},
		{"below", [][]int{{1, 1}, {-21, 1}}, api.ErrValue},
		{"the greatest int", [][]int{{1}, {math.MaxInt}}, api.ErrValue},
		{"the least int", [][]int{{1, 1, math.MinInt}}, api.ErrValue},
		{"a point's form ahead of its value", [][]int{{1, 1}, {21}}, api.ErrForm},
		{"the first one's value ahead of the second's form", [][]int{{1, 21}, {1}}, api.ErrValue},
		{"the second one's form ahead of the third's value", [][]int{{1, 1}, {1}, {1, 21}}, api.ErrForm},
	}
}

// J1
func TestConvexCheck(t *testing.T) {
	for _, c := range convexCheckCases() {
		if got := convex.Check(c.points); got != c.want {
			t.Errorf("%s: convex.Check(%v) = %d, want %d", c.what, c.points, got, c.want)
		}
		if c.want == api.OK {
			continue
		}
		if got, e := convex.Radon(c.points); e != c.want || len(got) != 0 {
			t.Errorf("%s: convex.Radon(%v) = %v, %d, want error %d", c.what, c.points, got, e, c.want)
		}
		for _, x := range [][]int{nil, {0}, {1, 1}, {21, 21, 21}} {
			if got, ok, e := convex.Between(c.points, x); e != c.want || ok || !isNothing(got) {
				t.Errorf("%s: convex.Between(%v, %v) = %v, %v, %d, want error %d", c.what, c.points, x, got, ok, e, c.want)
			}
		}
		if got, e := convex.Tverberg(c.points); e != c.want || len(got) != 0 {
			t.Errorf("%s: convex.Tverberg(%v) = %v, %d, want error %d", c.what, c.points, got, e, c.want)
		}
	}
}

// J2
func TestRadon(t *testing.T) {
	for _, c := range []struct {
		what   string
		points [][]int
		want   []int
		e      api.Errno
	}{
		{"the document's", [][]int{{0, 0}, {2, 0}, {0, 2}, {2, 2}}, []int{1, -1, -1, 1}, api.OK},
		{"a point in a triangle", [][]int{{0, 0}, {4, 0}, {0, 4}, {1, 1}}, []int{2, 1, 1, -4}, api.OK},
		{"ahead of the triangle", [][]int{{1, 1}, {0, 0}, {4, 0}, {0, 4}}, []int{4, -2, -1, -1}, api.OK},
		{"on a line", [][]int{{0}, {3}, {1}}, []int{2, 1, -3}, api.OK},
		{"on a line, two the same", [][]int{{5}, {3}, {5}}, []int{1, 0, -1}, api.OK},
		{"the first has nothing to do with it", [][]int{{7, 7}, {0, 0}, {1, 1}, {3, 3}}, nil, api.ErrFlat},
		{"the first has nothing to do, no line with it", [][]int{{7, 0}, {0, 0}, {1, 1}, {3, 3}}, []int{0, 2, -3, 1}, api.OK},
		{"one point, again and again", repeat([]int{4}, 3), nil, api.ErrFlat},
		{"two and two the same", [][]int{{0, 0}, {1, 1}, {0, 0}, {1, 1}}, nil, api.ErrFlat},
		{"on a plane", [][]int{{0, 0, 1}, {1, 0, 1}, {0, 1, 1}, {1, 1, 1}, {5, 5, 1}}, nil, api.ErrFlat},
		{"a simplex and its middle", [][]int{{1, 1, 1}, {0, 0, 0}, {4, 0, 0}, {0, 4, 0}, {0, 0, 4}}, []int{4, -1, -1, -1, -1}, api.OK},
		{"a line through a triangle", [][]int{{0, 0, 0}, {3, 0, 0}, {0, 3, 0}, {1, 1, 1}, {1, 1, -2}}, []int{1, 1, 1, -2, -1}, api.OK},
		{"a point too few", [][]int{{0, 0}, {1, 0}, {0, 1}}, nil, api.ErrCount},
		{"a point too many", [][]int{{0, 0}, {1, 0}, {0, 1}, {1, 1}, {2, 2}}, nil, api.ErrCount},
		{"the count ahead of flatness", repeat([]int{4}, 4), nil, api.ErrCount},
		{"of one dimension, as many as two would have", [][]int{{0}, {1}, {2}, {3}}, nil, api.ErrCount},
	} {
		if got, e := convex.Radon(c.points); e != c.e || !slices.Equal(got, c.want) {
			t.Errorf("%s: convex.Radon(%v) = %v, %d, want %v, %d", c.what, c.points, got, e, c.want, c.e)
		}
	}
}

// isLowered: does no number from 2 on divide all of them?
func isLowered(l []int) bool {
	for by := 2; by <= max(slices.Max(l), -slices.Min(l)); by++ {
		if !slices.ContainsFunc(l, func(v int) bool { return v%by != 0 }) {
			return false
		}
	}
	return true
}

// scaled are points, each number so many times.
func scaled(points [][]int, by int) [][]int {
	out := copied(points)
	for _, x := range out {
		for i := range x {
			x[i] *= by
		}
	}
	return out
}

// someTimes is so much of each point, added, and so much in all.
func someTimes(points [][]int, much []int) (place []int, all int) {
	place = make([]int, len(points[0]))
	for i, x := range points {
		for k, v := range x {
			place[k] += much[i] * v
		}
		all += much[i]
	}
	return place, all
}

// spread is how many of the points' differences don't hang on others.
func spread(points [][]int) int {
	var rows [][]int
	for _, x := range points[1:] {
		row := slices.Clone(x)
		for i := range row {
			row[i] -= points[0][i]
		}
		rows = append(rows, row)
	}
	return rankByMinors(rows)
}

// J2, and the whole: those of which there is more than 0 and those of which there is less share a place.
func TestRadonSharesAPlace(t *testing.T) {
	d := die(151)
	flat := 0
	for round := range 400 {
		dim := 1 + round%3
		points := d.lists(dim+2, dim, []int{1, 2, 5, api.MaxCut}[d.below(4)])
		if round%5 == 0 {
			points[dim] = slices.Clone(points[0])
			points[dim+1] = slices.Clone(points[d.below(dim)])
		}
		got, e := convex.Radon(points)
		if spread(points) < dim {
			flat++
			if e != api.ErrFlat || len(got) != 0 {
				t.Errorf("convex.Radon(%v) = %v, %d: there are several ways", points, got, e)
			}
			continue
		}
		if e != api.OK || len(got) != len(points) {
			t.Errorf("convex.Radon(%v) = %v, %d", points, got, e)
			continue
		}
		place, all := someTimes(points, got)
		first := slices.IndexFunc(got, func(v int) bool { return v != 0 })
		if all != 0 || !slices.Equal(place, make([]int, dim)) || !isLowered(got) || got[first] < 0 {
			t.Errorf("convex.Radon(%v) = %v: %v, %d in all", points, got, place, all)
		}
		checkShared(t, points, got)
	}
	if flat < 20 {
		t.Errorf("%d of them alone are flat", flat)
	}
}

// checkShared: does the place that Radon's numbers tell lie between those above 0, and those below?
func checkShared(t *testing.T, points [][]int, way []int) {
	t.Helper()
	var more, less [][]int
	above := make([]int, len(way))
	for i, v := range way {
		if v > 0 {
			more, above[i] = append(more, points[i]), v
		}
		if v < 0 {
			less = append(less, points[i])
		}
	}
	place, all := someTimes(points, above)
	if !isBetween(scaled(more, all), place) || !isBetween(scaled(less, all), place) {
		t.Errorf("convex.Radon(%v) = %v: %v by %d is not shared", points, way, place, all)
	}
}

// J2
func TestBetween(t *testing.T) {
	triangle := [][]int{{0, 0}, {4, 0}, {0, 4}}
	square := [][]int{{0, 0}, {2, 0}, {0, 2}, {2, 2}}
	for _, c := range []struct {
		what        string
		points      [][]int
		x           []int
		which, much []int
		under       int
		is          bool
	}{
		{"the document's", triangle, []int{1, 1}, []int{0, 1, 2}, []int{2, 1, 1}, 4, true},
		{"a corner", triangle, []int{0, 4}, []int{2}, []int{1}, 1, true},
		{"on an edge", triangle, []int{1, 3}, []int{1, 2}, []int{1, 3}, 4, true},
		{"in the midst of an edge, lowered", triangle, []int{2, 2}, []int{1, 2}, []int{1, 1}, 2, true},
		{"outside", triangle, []int{3, 3}, nil, nil, 0, false},
		{"on an edge's line, outside", triangle, []int{5, 0}, nil, nil, 0, false},
		{"the middle of a square: the first two", square, []int{1, 1}, []int{0, 3}, []int{1, 1}, 2, true},
		{"a point of its own, twice: the first", append(slices.Clone(square), []int{1, 1}, []int{1, 1}), []int{1, 1}, []int{4}, []int{1}, 1, true},
		{"fewer are ahead of what is first in order", [][]int{{0, 0}, {4, 0}, {0, 4}, {3, 3}, {-1, -1}}, []int{1, 1}, []int{0, 3}, []int{2, 1}, 3, true},
		{"the first of two pairs", [][]int{{0}, {1}, {3}, {4}}, []int{2}, []int{0, 2}, []int{1, 2}, 3, true},
		{"one point, again and again", repeat([]int{4}, 12), []int{4}, []int{0}, []int{1}, 1, true},
		{"one point, another place", repeat([]int{4}, 12), []int{5}, nil, nil, 0, false},
		{"four points of three dimensions", [][]int{{0, 0, 0}, {4, 0, 0}, {0, 4, 0}, {0, 0, 4}}, []int{1, 1, 1}, []int{0, 1, 2, 3}, []int{1, 1, 1, 1}, 4, true},
		{"four points of them, the first not needed", [][]int{{9, 9, 9}, {0, 0, 0}, {4, 0, 0}, {0, 4, 0}, {0, 0, 4}}, []int{1, 0, 1}, []int{1, 2, 4}, []int{2, 1, 1}, 4, true},
		{"points told twice", [][]int{{0, 0}, {0, 0}, {4, 0}, {4, 0}}, []int{1, 0}, []int{0, 2}, []int{3, 1}, 4, true},
		{"the bounds", [][]int{{-20, 20}, {20, -20}}, []int{20, -20}, []int{1}, []int{1}, 1, true},
		{"the bounds, next to them", [][]int{{-20, 20}, {20, -20}}, []int{19, -19}, []int{0, 1}, []int{1, 39}, 40, true},
	} {
		got, ok, e := convex.Between(c.points, c.x)
		if e != api.OK || ok != c.is || got.Under != c.under || !slices.Equal(got.Points, c.which) || !slices.Equal(got.Much, c.much) {
			t.Errorf("%s: convex.Between(%v, %v) = %v, %v, %d, want %v %v by %d", c.what, c.points, c.x, got, ok, e, c.which, c.much, c.under)
		}
	}
}

// J2: each error, and which is told first.
func TestBetweenErrors(t *testing.T) {
	for _, c := range []struct {
		what string
		x    []int
		want api.Errno
	}{
		{"as many", []int{1, 1}, api.OK},
		{"nil", nil, api.ErrForm},
		{"one too few", []int{1}, api.ErrForm},
		{"one too many", []int{1, 1, 1}, api.ErrForm},
		{"the form ahead of the value", []int{21}, api.ErrForm},
		{"the bounds", []int{20, -20}, api.OK},
		{"above", []int{21, 0}, api.ErrValue},
		{"below", []int{0, -21}, api.ErrValue},
		{"the greatest int", []int{math.MaxInt, 0}, api.ErrValue},
		{"the least int", []int{0, math.MinInt}, api.ErrValue},
	} {
		got, ok, e := convex.Between([][]int{{0, 0}, {2, 0}, {0, 2}}, c.x)
		if e != c.want || e != api.OK && (ok || !isNothing(got)) {
			t.Errorf("%s: convex.Between(.., %v) = %v, %v, %d, want error %d", c.what, c.x, got, ok, e, c.want)
		}
	}
}

// fewestBetween goes by J2: the fewest points, of those the first in order, between which x is.
func fewestBetween(points [][]int, x []int) []int {
	for many := 1; many <= min(len(points), len(x)+1); many++ {
		all := choices(len(points), many)
		slices.SortFunc(all, slices.Compare[[]int])
		for _, c := range all {
			if between(cornersOfCell(points, c), x) {
				return c
			}
		}
	}
	return nil
}

// J2
func TestBetweenByWords(t *testing.T) {
	d := die(152)
	inside := 0
	for round := range 240 {
		dim := 1 + round%3
		most := []int{1, 3, api.MaxCut}[d.below(3)]
		points := d.lists(1+d.below(14-3*dim), dim, most)
		x := d.list(dim, max(1, most/2))
		want := fewestBetween(points, x)
		got, ok, e := convex.Between(points, x)
		if e != api.OK || ok != (want != nil) || !slices.Equal(got.Points, want) {
			t.Errorf("convex.Between(%v, %v) = %v, %v, %d, want %v", points, x, got, ok, e, want)
			continue
		}
		if !ok {
			if !isNothing(got) {
				t.Errorf("convex.Between(%v, %v) = %v, false", points, x, got)
			}
			continue
		}
		inside++
		place, all := someTimes(cornersOfCell(points, want), got.Much)
		if all != got.Under || !isLowered(append(slices.Clone(got.Much), got.Under)) || slices.Min(got.Much) < 1 || !slices.Equal(place, scaled([][]int{x}, all)[0]) {
			t.Errorf("convex.Between(%v, %v) = %v: that is %v by %d", points, x, got, place, all)
		}
	}
	if inside < 50 {
		t.Errorf("%d of them alone are inside", inside)
	}
}

// J2: the most points that may be, the greatest numbers, and a place that needs as many as can be.
func TestBetweenTheMost(t *testing.T) {
	points := [][]int{{20, 19, -20}, {20, -20, 19}, {-20, 20, 20}, {-19, -20, -20}}
	for i := range 8 {
		points = append(points, []int{20, 20 - i, 20})
	}
	x := []int{1, -2, -1}
	got, ok, e := convex.Between(points, x)
	place, all := someTimes(points[:4], append(slices.Clone(got.Much), 0, 0, 0, 0)[:4])
	if e != api.OK || !ok || !slices.Equal(got.Points, []int{0, 1, 2, 3}) || all != got.Under || !slices.Equal(place, scaled([][]int{x}, all)[0]) {
		t.Errorf("convex.Between(%v, %v) = %v, %v, %d, want %v", points, x, got, ok, e, fewestBetween(points, x))
	}
}

// Z2
func TestConvexLists(t *testing.T) {
	was, x := [][]int{{0, 0}, {4, 0}, {0, 4}, {1, 1}}, roomy([]int{1, 2})
	points := roomyLists(was)
	way, e := convex.Radon(points)
	more, _ := convex.Radon(points)
	got, ok, f := convex.Between(points, x)
	again, _, _ := convex.Between(points, x)
	if e != api.OK || f != api.OK || !ok || convex.Check(points) != api.OK || !untouchedLists(points, was) || !untouched(x, []int{1, 2}) {
		t.Errorf("of %v, %v: %v, %d, %v, %d", points, x, way, e, got, f)
	}
	if !apart(append(slices.Clone(points), x, way, more, got.Points, got.Much, again.Points, again.Much)...) {
		t.Error("lists share memory")
	}
}
