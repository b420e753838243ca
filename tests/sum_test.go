package tests

import (
	"slices"
	"testing"

	"facet/api"
	"facet/exact"
	"facet/hull"
	"facet/sum"
	"facet/volume"
)

func moved(p api.Polytope, by []int) api.Polytope {
	out := bodyOf(p.Dim)
	for _, x := range p.Points {
		out.Points = append(out.Points, exact.Sum(x, by))
	}
	return out
}

// S1
func TestSumCorners(t *testing.T) {
	square, triangle := cube(2, 0, 2), bodyOf(2, []int{0, 0}, []int{1, 1}, []int{1, 0})
	for _, c := range []struct {
		what string
		p, q api.Polytope
		want [][]int
	}{
		{"the document's", square, triangle, [][]int{{0, 0}, {0, 2}, {1, 3}, {3, 0}, {3, 3}}},
		{"segments", bodyOf(1, []int{-3}, []int{4}), bodyOf(1, []int{9}, []int{5}, []int{7}), [][]int{{2}, {13}}},
		{"the longest segments", bodyOf(1, []int{-100}, []int{100}), bodyOf(1, []int{-100}, []int{100}), [][]int{{-200}, {200}}},
		{"squares", square, cube(2, -1, 4), [][]int{{-1, -1}, {-1, 6}, {6, -1}, {6, 6}}},
		{"a triangle and itself", triangle, triangle, [][]int{{0, 0}, {2, 0}, {2, 2}}},
		{"a triangle and what it is turned over", triangle, bodyOf(2, []int{0, 0}, []int{-1, -1}, []int{-1, 0}),
			[][]int{{-1, -1}, {-1, 0}, {0, -1}, {0, 1}, {1, 0}, {1, 1}}},
		{"points twice, between and inside", bodyOf(2, append(cube(2, 0, 2).Points, []int{1, 1}, []int{2, 2}, []int{1, 0})...), triangle,
			[][]int{{0, 0}, {0, 2}, {1, 3}, {3, 0}, {3, 3}}},
		{"a square and a square on its corner", cube(2, 0, 1), cross(2, 1),
			[][]int{{-1, 0}, {-1, 1}, {0, -1}, {0, 2}, {1, -1}, {1, 2}, {2, 0}, {2, 1}}},
		{"the greatest squares", cube(2, -100, 100), cube(2, -100, 100), cube(2, -200, 200).Points},
		{"simplices of four", bodyOf(4, simplex(4, 100)...), bodyOf(4, simplex(4, 50)...),
			[][]int{{0, 0, 0, 0}, {0, 0, 0, 150}, {0, 0, 150, 0}, {0, 150, 0, 0}, {150, 0, 0, 0}}},
	} {
		want := copied(c.want)
		slices.SortFunc(want, slices.Compare[[]int])
		for _, pair := range [][2]api.Polytope{{c.p, c.q}, {c.q, c.p}} {
			if got, e := sum.Corners(pair[0], pair[1]); e != api.OK || !alike(got, want) {
				t.Errorf("%s: sum.Corners(%v, %v) = %v, %d, want %v", c.what, pair[0], pair[1], got, e, want)
			}
		}
	}
}

// S1: sums of which it is known how many corners they have.
func TestSumHowManyCorners(t *testing.T) {
	turned := bodyOf(4)
	for _, x := range simplex(4, 100) {
		turned.Points = append(turned.Points, exact.Negated(x))
	}
	wide, _ := hull.Cyclic(2, 21)
	for _, c := range []struct {
		what string
		p, q api.Polytope
		want int
	}{
		{"all differences of a simplex of four", bodyOf(4, simplex(4, 100)...), turned, 20},
		{"the most corners of the plane", wide, bodyOf(2, []int{0, 0}, []int{99, 1}, []int{-100, 50}), 24},
		{"crosses of four", cross(4, 100), cross(4, 100), 8},
		{"a cube and a cross of three", cube(3, -100, 100), cross(3, 100), 24},
	} {
		if got, e := sum.Corners(c.p, c.q); e != api.OK || len(got) != c.want {
			t.Errorf("%s: %d corners, %d, want %d: %v", c.what, len(got), e, c.want, got)
		}
	}
}

func sumsOf(p, q api.Polytope) [][]int {
	var out [][]int
	for _, x := range p.Points {
		for _, y := range q.Points {
			out = append(out, exact.Sum(x, y))
		}
	}
	slices.SortFunc(out, slices.Compare[[]int])
	return slices.CompactFunc(out, slices.Equal[[]int])
}

// cornersByChoices are the points that are alone farthest in some direction: if there
// is one, then it is all of the rows that the point meets, added.
func cornersByChoices(points [][]int) [][]int {
	dim := len(points[0])
	rows := rowsByChoices(points)
	return slices.DeleteFunc(slices.Clone(points), func(x []int) bool {
		way := make([]int, dim)
		for _, row := range rows {
			if exact.Product(row[:dim], x) == row[dim] {
				way = exact.Sum(way, row)
			}
		}
		return slices.ContainsFunc(points, func(y []int) bool {
			return !slices.Equal(x, y) && exact.Product(way, y) >= exact.Product(way, x)
		})
	})
}

// S1: a corner is a sum of points that is not between the other ones.
func TestSumCornersByWords(t *testing.T) {
	d := die(111)
	for round := range 60 {
		dim := 1 + round%4
		p, q := drawn(&d, dim), drawn(&d, dim)
		if dim == 4 {
			q = bodyOf(dim, simplex(dim, 1-2*d.below(2))...)
			q.Points[0] = d.list(dim, 3)
		}
		if len(p.Points)*len(q.Points) > 40 || hull.Check(q) != api.OK {
			continue
		}
		want := cornersByChoices(sumsOf(p, q))
		if got, e := sum.Corners(p, q); e != api.OK || !alike(got, want) {
			t.Errorf("sum.Corners(%v, %v) = %v, %d, want %v", p, q, got, e, want)
		}
	}
}

func greatest(points [][]int, way []int) int {
	most := exact.Product(way, points[0])
	for _, x := range points {
		most = max(most, exact.Product(way, x))
	}
	return most
}

// S1: a sum reaches as far, each way, as both together; and each of its corners is a sum.
func TestSumReachesAsFarAsBoth(t *testing.T) {
	d := die(112)
	for round := range 24 {
		dim := 1 + round%4
		p := bodyOf(dim, append(simplex(dim, 40), d.lists(3, dim, api.MaxCoord)...)...)
		q := bodyOf(dim, append(simplex(dim, -40), d.lists(2, dim, api.MaxCoord)...)...)
		corners, e := sum.Corners(p, q)
		if e != api.OK || !slices.IsSortedFunc(corners, slices.Compare[[]int]) {
			t.Fatalf("sum.Corners(%v, %v) = %v, %d", p, q, corners, e)
		}
		all := sumsOf(p, q)
		for i, x := range corners {
			if _, ok := slices.BinarySearchFunc(all, x, slices.Compare[[]int]); !ok || i > 0 && slices.Equal(x, corners[i-1]) {
				t.Errorf("%v and %v: %v", p, q, x)
			}
		}
		for range 100 {
			way := d.list(dim, 30)
			if got, want := greatest(corners, way), greatest(p.Points, way)+greatest(q.Points, way); got != want {
				t.Errorf("%v and %v: %v reaches %d along %v, want %d", p, q, corners, got, way, want)
			}
		}
	}
}

// S1
func TestSumMixed(t *testing.T) {
	square, triangle := cube(2, 0, 2), bodyOf(2, []int{0, 0}, []int{1, 1}, []int{1, 0})
	unit := bodyOf(2, simplex(2, 1)...)
	for _, c := range []struct {
		what string
		p, q api.Polytope
		want int
	}{
		{"the document's", square, triangle, 4},
		{"squares of edges 1", cube(2, 0, 1), cube(2, 5, 6), 2},
		{"rectangles", brick(3, 5), brick(7, 11), 3*11 + 5*7},
		{"a triangle and itself: twice a half", unit, unit, 1},
		{"a triangle and what it is turned over", unit, bodyOf(2, []int{0, 0}, []int{-1, 0}, []int{0, -1}), 2},
		{"the greatest squares", cube(2, -100, 100), cube(2, -100, 100), 80000},
		{"the least triangles", unit, bodyOf(2, []int{0, 0}, []int{1, 1}, []int{1, 2}), 3},
		{"points twice, between and inside", bodyOf(2, append(cube(2, 0, 2).Points, []int{1, 1}, []int{2, 2}, []int{1, 0})...), triangle, 4},
	} {
		for _, pair := range [][2]api.Polytope{{c.p, c.q}, {c.q, c.p}} {
			if got, e := sum.Mixed(pair[0], pair[1]); e != api.OK || got != c.want {
				t.Errorf("%s: sum.Mixed(%v, %v) = %d, %d, want %d", c.what, pair[0], pair[1], got, e, c.want)
			}
		}
	}
}

// sumErrors: what S1 says of two polytopes, with Mixed's last word if it is asked.
func sumErrorCases() []struct {
	what           string
	p, q           api.Polytope
	corners, mixed api.Errno
} {
	square, segment, flat := cube(2, 0, 2), bodyOf(1, []int{0}, []int{1}), bodyOf(2, []int{0, 0}, []int{1, 1})
	crowd := func(dim, many int) api.Polytope {
		return bodyOf(dim, append(simplex(dim, 1), repeat(make([]int, dim), many-dim-1)...)...)
	}
	return []struct {
		what           string
		p, q           api.Polytope
		corners, mixed api.Errno
	}{
		{"two squares", square, square, api.OK, api.OK},
		{"segments", segment, segment, api.OK, api.ErrDim},
		{"of three dimensions", crowd(3, 4), crowd(3, 4), api.OK, api.ErrDim},
		{"of four", crowd(4, 5), crowd(4, 5), api.OK, api.ErrDim},
		{"another dimension", square, segment, api.ErrForm, api.ErrForm},
		{"another dimension first", segment, square, api.ErrForm, api.ErrForm},
		{"a flat one of another dimension", segment, flat, api.ErrFlat, api.ErrFlat},
		{"the first one's error", flat, bodyOf(0), api.ErrFlat, api.ErrFlat},
		{"the second one's error", square, bodyOf(0), api.ErrDim, api.ErrDim},
		{"8 times 8", crowd(2, 8), crowd(2, 8), api.OK, api.OK},
		{"5 times 13, though it has few corners", crowd(2, 5), crowd(2, 13), api.ErrLimit, api.ErrLimit},
		{"13 times 5", crowd(2, 13), crowd(2, 5), api.ErrLimit, api.ErrLimit},
		{"the most times the most", crowd(2, api.MaxPoints), crowd(2, api.MaxPoints), api.ErrLimit, api.ErrLimit},
		{"too many ahead of Mixed's dimension", crowd(1, 13), crowd(1, 5), api.ErrLimit, api.ErrLimit},
		{"another dimension ahead of too many", crowd(2, 13), crowd(1, 5), api.ErrForm, api.ErrForm},
		{"64 segments", crowd(1, 16), crowd(1, 4), api.OK, api.ErrDim},
		{"64 of four dimensions", crowd(4, 8), crowd(4, 8), api.OK, api.ErrDim},
	}
}

// S1: each error, and which is told first.
func TestSumErrors(t *testing.T) {
	for _, c := range sumErrorCases() {
		if got, e := sum.Corners(c.p, c.q); e != c.corners || e != api.OK && len(got) != 0 {
			t.Errorf("%s: sum.Corners(%v, %v) = %v, %d, want error %d", c.what, c.p, c.q, got, e, c.corners)
		}
		if got, e := sum.Mixed(c.p, c.q); e != c.mixed || e != api.OK && got != 0 {
			t.Errorf("%s: sum.Mixed(%v, %v) = %d, %d, want error %d", c.what, c.p, c.q, got, e, c.mixed)
		}
	}
	for _, c := range hullCheckCases() {
		if c.want == api.OK {
			continue
		}
		for _, q := range []api.Polytope{cube(2, 0, 1), bodyOf(1, []int{0}, []int{1}), bodyOf(7)} {
			if got, e := sum.Corners(c.p, q); e != c.want || len(got) != 0 {
				t.Errorf("%s: sum.Corners(%v, %v) = %v, %d, want error %d", c.what, c.p, q, got, e, c.want)
			}
			if got, e := sum.Mixed(c.p, q); e != c.want || got != 0 {
				t.Errorf("%s: sum.Mixed(%v, %v) = %v, %d, want error %d", c.what, c.p, q, got, e, c.want)
			}
		}
		if got, e := sum.Corners(cube(2, 0, 1), c.p); e != c.want || len(got) != 0 {
			t.Errorf("%s: sum.Corners(a square, %v) = %v, %d, want error %d", c.what, c.p, got, e, c.want)
		}
		if got, e := sum.Mixed(bodyOf(1, []int{0}, []int{1}), c.p); e != c.want || got != 0 {
			t.Errorf("%s: sum.Mixed(a segment, %v) = %v, %d, want error %d", c.what, c.p, got, e, c.want)
		}
	}
}

func drawnPlanar(d *die, many, most int) api.Polytope {
	for range 1000 {
		if p := bodyOf(2, d.lists(3+d.below(many-2), 2, most)...); hull.Check(p) == api.OK {
			return p
		}
	}
	panic("hull.Check takes no polytope")
}

// S1, and point 3 of the whole: sums are mixed. With itself, a polytope has its area twice;
// moving says nothing; and what is mixed with a sum is mixed with both.
func TestSumMixedAddsUp(t *testing.T) {
	d := die(113)
	for range 80 {
		p, q, r := drawnPlanar(&d, 4, 30), drawnPlanar(&d, 4, 30), drawnPlanar(&d, 4, 30)
		twice, _ := volume.Of(p)
		if got, e := sum.Mixed(p, p); e != api.OK || got != twice {
			t.Errorf("sum.Mixed(%v, itself) = %d, %d, want %d", p, got, e, twice)
		}
		want, e := sum.Mixed(p, q)
		if got, f := sum.Mixed(moved(q, d.list(2, 30)), moved(p, d.list(2, 30))); e != api.OK || f != api.OK || got != want || got <= 0 {
			t.Errorf("sum.Mixed(%v, %v) = %d, %d; moved: %d, %d", p, q, want, e, got, f)
		}
		of, _ := sum.Corners(p, q)
		much, f := volume.Of(bodyOf(2, of...))
		other, _ := volume.Of(q)
		if f != api.OK || much != twice+other+2*want {
			t.Errorf("sum.Mixed(%v, %v) = %d, but twice the areas are %d, %d, %d", p, q, want, twice, other, much)
		}
		withR, e := sum.Mixed(r, p)
		andQ, f := sum.Mixed(r, q)
		if got, g := sum.Mixed(r, bodyOf(2, of...)); e != api.OK || f != api.OK || g != api.OK || got != withR+andQ {
			t.Errorf("sum.Mixed(%v, ..): %v gives %d, %v gives %d, the sum %d, %d", r, p, withR, q, andQ, got, g)
		}
	}
}

// S1: edge by edge of one of them, what is mixed is how far the other one reaches there.
func TestSumMixedByEdges(t *testing.T) {
	d := die(114)
	for range 120 {
		p, q := drawnPlanar(&d, 8, api.MaxCoord), drawnPlanar(&d, 8, api.MaxCoord)
		rows, _ := hull.Rows(p)
		corners, _ := hull.Corners(p)
		want := 0
		for _, row := range rows {
			var low, high int
			along := []int{-row[1], row[0]}
			low, high = greatest(corners, along), -greatest(corners, exact.Negated(along))
			for _, x := range corners {
				if exact.Product(row[:2], x) == row[2] {
					low, high = min(low, exact.Product(along, x)), max(high, exact.Product(along, x))
				}
			}
			length := (high - low) / exact.Product(along, along)
			want += length * greatest(q.Points, row[:2])
		}
		if got, e := sum.Mixed(p, q); e != api.OK || got != want {
			t.Errorf("sum.Mixed(%v, %v) = %d, %d, want %d", p, q, got, e, want)
		}
	}
}

// Z2
func TestSumLists(t *testing.T) {
	of, to := cube(2, 0, 2).Points, [][]int{{0, 0}, {1, 1}, {1, 0}}
	p, q := bodyOf(2, roomyLists(of)...), bodyOf(2, roomyLists(to)...)
	l, e := sum.Corners(p, q)
	again, _ := sum.Corners(p, q)
	if _, f := sum.Mixed(p, q); e != api.OK || f != api.OK || len(l) != 5 {
		t.Errorf("sum.Corners(%v, %v) = %v, %d; sum.Mixed: %d", p, q, l, e, f)
	}
	if !untouchedLists(p.Points, of) || !untouchedLists(q.Points, to) {
		t.Errorf("%v, %v", p, q)
	}
	if !apart(p.Points, q.Points, l, again) || !apart(slices.Concat(p.Points, q.Points, l, again)...) {
		t.Error("lists share memory")
	}
}
