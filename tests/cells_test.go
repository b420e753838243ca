package tests

import (
	"math"
	"math/big"
	"slices"
	"testing"

	"facet/api"
	"facet/cells"
	"facet/exact"
	"facet/volume"
)

func centred() [][]int { return [][]int{{0, 0}, {2, 0}, {0, 2}, {2, 2}, {1, 1}} }

// bowl has so many points of the plane, all of which are corners.
func bowl(many int) [][]int {
	var points [][]int
	for i := range many {
		points = append(points, []int{i, i * i})
	}
	return points
}

type flatCheckCase struct {
	what   string
	points [][]int
	want   api.Errno
}

func flatCheckCases() []flatCheckCase {
	return []flatCheckCase{
		{"three", [][]int{{0, 0}, {1, 0}, {0, 1}}, api.OK},
		{"the most", bowl(api.MaxFlat), api.OK},
		{"nil", nil, api.ErrCount},
		{"none", [][]int{}, api.ErrCount},
		{"two", [][]int{{0, 0}, {1, 0}}, api.ErrCount},
		{"two of no form", [][]int{{0}, nil}, api.ErrCount},
		{"one too many", bowl(api.MaxFlat + 1), api.ErrCount},
		{"one too many, all wrong", repeat([]int{101}, api.MaxFlat+1), api.ErrCount},
		{"a number too few", [][]int{{0, 0}, {1, 0}, {0}}, api.ErrForm},
		{"a number too many", [][]int{{0, 0, 0}, {1, 0}, {0, 1}}, api.ErrForm},
		{"a point that is nil", [][]int{{0, 0}, nil, {0, 1}}, api.ErrForm},
		{"of three dimensions", simplex(3, 1), api.ErrForm},
		{"numbers at the bound", [][]int{{-100, -100}, {100, -100}, {-100, 100}, {100, 100}}, api.OK},
		{"above it", [][]int{{0, 0}, {101, 0}, {0, 1}}, api.ErrValue},
		{"below it", [][]int{{0, 0}, {1, 0}, {0, -101}}, api.ErrValue},
		{"the greatest int", [][]int{{0, 0}, {math.MaxInt, 0}, {0, 1}}, api.ErrValue},
		{"the least int", [][]int{{0, 0}, {1, 0}, {0, math.MinInt}}, api.ErrValue},
		{"a value ahead of a form", [][]int{{101, 0}, {1}, {0, 1}}, api.ErrValue},
		{"a form ahead of a value", [][]int{{1}, {101, 0}, {0, 1}}, api.ErrForm},
		{"on a line", [][]int{{0, 1}, {1, 2}, {2, 3}, {-9, -8}}, api.ErrFlat},
		{"one point alone, again and again", repeat([]int{4, 4}, 7), api.ErrFlat},
		{"flatness ahead of twice", [][]int{{0, 1}, {1, 2}, {0, 1}}, api.ErrFlat},
		{"one twice", [][]int{{0, 0}, {1, 0}, {0, 1}, {1, 0}}, api.ErrTwice},
		{"the first twice at once", [][]int{{0, 0}, {0, 0}, {0, 1}, {1, 0}}, api.ErrTwice},
		{"the last twice", [][]int{{0, 0}, {0, 1}, {1, 0}, {5, 5}, {5, 5}}, api.ErrTwice},
		{"numbers the other way round", [][]int{{0, 1}, {1, 0}, {0, 0}}, api.OK},
	}
}

// T1
func TestFlatCheck(t *testing.T) {
	for _, c := range flatCheckCases() {
		if got := cells.Check(c.points); got != c.want {
			t.Errorf("%s: cells.Check(%v) = %d, want %d", c.what, c.points, got, c.want)
		}
		if c.want == api.OK {
			continue
		}
		for _, heights := range [][]int{nil, make([]int, len(c.points)), {1000}} {
			if got, e := cells.Regular(c.points, heights); e != c.want || len(got) != 0 {
				t.Errorf("%s: cells.Regular(%v, %v) = %v, %d, want error %d", c.what, c.points, heights, got, e, c.want)
			}
		}
		if got, e := cells.All(c.points); e != c.want || len(got) != 0 {
			t.Errorf("%s: cells.All(%v) = %v, %d, want error %d", c.what, c.points, got, e, c.want)
		}
		for _, way := range [][][]int{nil, {{0, 1, 2}}} {
			if got, e := cells.Flips(c.points, way); e != c.want || len(got) != 0 {
				t.Errorf("%s: cells.Flips(%v, %v) = %v, %d, want error %d", c.what, c.points, way, got, e, c.want)
			}
		}
	}
	for _, c := range hullCheckCases() {
		if c.p.Dim == 2 && len(c.p.Points) >= 3 && len(c.p.Points) <= api.MaxFlat && c.want != api.OK {
			if got := cells.Check(c.p.Points); got != c.want {
				t.Errorf("%s: cells.Check(%v) = %d, want %d", c.what, c.p.Points, got, c.want)
			}
		}
	}
}

// T2
func TestRegular(t *testing.T) {
	square, triangle := [][]int{{0, 0}, {2, 0}, {0, 2}, {2, 2}}, [][]int{{0, 0}, {4, 0}, {0, 4}}
	row := [][]int{{0, 0}, {1, 0}, {2, 0}, {3, 0}, {0, 1}}
	for _, c := range []struct {
		what    string
		points  [][]int
		heights []int
		want    [][]int
	}{
		{"the document's", centred(), []int{0, 0, 0, 0, -1}, [][]int{{0, 1, 4}, {0, 2, 4}, {1, 3, 4}, {2, 3, 4}}},
		{"all on one plane", centred(), []int{1, 1, 1, 1, 1}, [][]int{{0, 1, 2, 3, 4}}},
		{"all on one plane aslant", centred(), []int{0, 2, 4, 6, 3}, [][]int{{0, 1, 2, 3, 4}}},
		{"the middle is hidden", centred(), []int{0, 0, 0, 0, 1}, [][]int{{0, 1, 2, 3}}},
		{"along one line, the middle on it", centred(), []int{0, 5, 5, 0, 0}, [][]int{{0, 1, 3, 4}, {0, 2, 3, 4}}},
		{"along one line, the middle above it", centred(), []int{0, 5, 5, 0, 1}, [][]int{{0, 1, 3}, {0, 2, 3}}},
		{"along the other line", square, []int{3, -1, -1, 3}, [][]int{{0, 1, 2}, {1, 2, 3}}},
		{"a triangle", triangle, []int{7, -100, 100}, [][]int{{0, 1, 2}}},
		{"the greatest heights", centred(), []int{100, 100, 100, 100, -100}, [][]int{{0, 1, 4}, {0, 2, 4}, {1, 3, 4}, {2, 3, 4}}},
		{"a row, bent", row, []int{4, 1, 0, 1, 9}, [][]int{{0, 1, 4}, {1, 2, 4}, {2, 3, 4}}},
		{"a row, some hidden", row, []int{0, 9, 9, 0, 0}, [][]int{{0, 3, 4}}},
		{"a row, straight", row, []int{0, 1, 2, 3, 50}, [][]int{{0, 1, 2, 3, 4}}},
		{"a row, straight but one", row, []int{0, 1, 2, 4, 0}, [][]int{{0, 1, 2, 4}, {2, 3, 4}}},
		{"points told in another order", [][]int{{2, 2}, {1, 1}, {0, 2}, {2, 0}, {0, 0}}, []int{0, -1, 0, 0, 0},
			[][]int{{0, 1, 2}, {0, 1, 3}, {1, 2, 4}, {1, 3, 4}}},
	} {
		if got, e := cells.Regular(c.points, c.heights); e != api.OK || !alike(got, c.want) {
			t.Errorf("%s: cells.Regular(%v, %v) = %v, %d, want %v", c.what, c.points, c.heights, got, e, c.want)
		}
	}
}

// T2: each error, and which is told first.
func TestRegularErrors(t *testing.T) {
	for _, c := range []struct {
		what    string
		heights []int
		want    api.Errno
	}{
		{"as many", []int{0, 0, 0, 0, 0}, api.OK},
		{"none", nil, api.ErrCount},
		{"one too few", []int{0, 0, 0, 0}, api.ErrCount},
		{"one too many", []int{0, 0, 0, 0, 0, 0}, api.ErrCount},
		{"the count ahead of the value", []int{101, 0, 0, 0}, api.ErrCount},
		{"the bounds", []int{100, 0, 0, 0, -100}, api.OK},
		{"above", []int{101, 0, 0, 0, 0}, api.ErrValue},
		{"below", []int{0, 0, 0, 0, -101}, api.ErrValue},
		{"the greatest int", []int{0, math.MaxInt, 0, 0, 0}, api.ErrValue},
		{"the least int", []int{0, 0, 0, math.MinInt, 0}, api.ErrValue},
	} {
		if got, e := cells.Regular(centred(), c.heights); e != c.want || e != api.OK && len(got) != 0 {
			t.Errorf("%s: cells.Regular(.., %v) = %v, %d, want error %d", c.what, c.heights, got, e, c.want)
		}
	}
}

// drawnFlat are points that cells.Check takes.
func drawnFlat(d *die, least, most int) [][]int {
	for range 1000 {
		if points := d.lists(least+d.below(api.MaxFlat-least+1), 2, most); cells.Check(points) == api.OK {
			return points
		}
	}
	panic("cells.Check takes no points")
}

// planeThrough is the plane z = a x + b y + c of three points that have heights, if there is one.
func planeThrough(points [][]int, heights []int) []*big.Rat {
	var rows [][]*big.Rat
	for i, x := range points {
		var row []*big.Rat
		for _, v := range []int{x[0], x[1], 1, heights[i]} {
			row = append(row, big.NewRat(int64(v), 1))
		}
		rows = append(rows, row)
	}
	return solve(rows, 3)
}

// regularByWords goes by T2.
func regularByWords(points [][]int, heights []int) [][]int {
	var out [][]int
	for _, c := range choices(len(points), 3) {
		plane := planeThrough(cornersOfCell(points, c), []int{heights[c[0]], heights[c[1]], heights[c[2]]})
		if plane == nil {
			continue
		}
		var on []int
		isBelow := false
		for i, x := range points {
			z := new(big.Rat).Set(plane[2])
			for k, v := range x {
				z.Add(z, new(big.Rat).Mul(plane[k], big.NewRat(int64(v), 1)))
			}
			switch z.Cmp(big.NewRat(int64(heights[i]), 1)) {
			case 0:
				on = append(on, i)
			case 1:
				isBelow = true
			}
		}
		if !isBelow {
			out = append(out, on)
		}
	}
	slices.SortFunc(out, slices.Compare[[]int])
	return slices.CompactFunc(out, slices.Equal[[]int])
}

// T2
func TestRegularByWords(t *testing.T) {
	d := die(131)
	for round := range 300 {
		points := drawnFlat(&d, 3, []int{1, 2, 3, api.MaxCoord}[round%4])
		heights := d.list(len(points), []int{1, 3, api.MaxHeight}[round%3])
		want := regularByWords(points, heights)
		if got, e := cells.Regular(points, heights); e != api.OK || !alike(got, want) {
			t.Errorf("cells.Regular(%v, %v) = %v, %d, want %v", points, heights, got, e, want)
		}
	}
}

// T2: what is seen from below fills what lies between the points; raising all as a plane does says nothing.
func TestRegularFills(t *testing.T) {
	d := die(132)
	for round := range 200 {
		points := drawnFlat(&d, 3, 1+round%9)
		heights := d.list(len(points), 1+round%40)
		want, _ := volume.Of(bodyOf(2, points...))
		got, e := cells.Regular(points, heights)
		much := 0
		for _, cell := range got {
			m, f := volume.Of(bodyOf(2, cornersOfCell(points, cell)...))
			if f != api.OK {
				t.Errorf("cells.Regular(%v, %v): %v, %d", points, heights, cell, f)
			}
			much += m
		}
		if e != api.OK || much != want {
			t.Errorf("cells.Regular(%v, %v) = %v, %d: they have %d, all have %d", points, heights, got, e, much, want)
		}
		slope := append(d.list(2, 2), d.below(20))
		raised := slices.Clone(heights)
		for i, x := range points {
			raised[i] += exact.Product(slope[:2], x) + slope[2]
		}
		if again, e := cells.Regular(points, raised); e != api.OK || !alike(again, got) {
			t.Errorf("cells.Regular(%v, %v) = %v, raised to %v it is %v, %d", points, heights, got, raised, again, e)
		}
	}
}

// T2, T3: if all that is seen from below are triangles, and all points are seen, it is a way.
func TestRegularIsAWay(t *testing.T) {
	d := die(133)
	many := 0
	for round := range 300 {
		points := drawnFlat(&d, 3, 2+round%9)
		heights := d.list(len(points), 3)
		for i, x := range points {
			heights[i] = min(exact.Product(x, x)/2+heights[i], api.MaxHeight)
		}
		got, e := cells.Regular(points, heights)
		seen := slices.Concat(got...)
		slices.Sort(seen)
		whole := len(slices.Compact(seen)) == len(points) && !slices.ContainsFunc(got, func(l []int) bool { return len(l) != 3 })
		all, f := cells.All(points)
		isWay := slices.ContainsFunc(all, func(way [][]int) bool { return alike(way, got) })
		if e != api.OK || f != api.OK || whole != isWay {
			t.Errorf("cells.Regular(%v, %v) = %v, %d: it is a way of cells.All: %v, want %v", points, heights, got, e, isWay, whole)
		}
		if isWay {
			many++
		}
	}
	if many < 30 {
		t.Errorf("%d of them alone are ways", many)
	}
}

// Z2
func TestRegularLists(t *testing.T) {
	points, heights := roomyLists(centred()), roomy([]int{0, 0, 0, 0, -1})
	got, e := cells.Regular(points, heights)
	again, _ := cells.Regular(points, heights)
	if e != api.OK || len(got) != 4 || !untouchedLists(points, centred()) || !untouched(heights, []int{0, 0, 0, 0, -1}) {
		t.Errorf("cells.Regular(%v, %v) = %v, %d", points, heights, got, e)
	}
	if !apart(points, got, again) || !apart(append(slices.Concat(points, got, again), heights)...) {
		t.Error("lists share memory")
	}
	if e := cells.Check(points); e != api.OK || !untouchedLists(points, centred()) {
		t.Errorf("cells.Check(%v) = %d", points, e)
	}
}
