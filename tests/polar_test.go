package tests

import (
	"slices"
	"testing"

	"facet/api"
	"facet/face"
	"facet/half"
	"facet/hull"
	"facet/polar"
)

type polarCase struct {
	what    string
	p       api.Polytope
	corners [][]int
	whole   bool
}

func polarCases() []polarCase {
	four := [][]int{{-1, 0, 1}, {0, -1, 1}, {0, 1, 1}, {1, 0, 1}}
	return []polarCase{
		{"a triangle", bodyOf(2, []int{1, 0}, []int{0, 1}, []int{-1, -1}), [][]int{{-2, 1, 1}, {1, -2, 1}, {1, 1, 1}}, true},
		{"that one's polar", bodyOf(2, []int{-2, 1}, []int{1, -2}, []int{1, 1}), [][]int{{-1, -1, 1}, {0, 1, 1}, {1, 0, 1}}, true},
		{"a segment", bodyOf(1, []int{1}, []int{-1}), [][]int{{-1, 1}, {1, 1}}, true},
		{"a longer segment", bodyOf(1, []int{-1}, []int{2}, []int{0}), [][]int{{-1, 1}, {1, 2}}, false},
		{"the longest segment", bodyOf(1, []int{-100}, []int{100}), [][]int{{-1, 100}, {1, 100}}, false},
		{"a square", cube(2, -1, 1), four, true},
		{"a square with points inside, between and twice",
			bodyOf(2, []int{1, 1}, []int{0, 0}, []int{1, -1}, []int{0, 1}, []int{-1, 1}, []int{1, 1}, []int{-1, -1}), four, true},
		{"a greater square", cube(2, -2, 2), [][]int{{-1, 0, 2}, {0, -1, 2}, {0, 1, 2}, {1, 0, 2}}, false},
		{"one side too far out", bodyOf(2, []int{-1, -1}, []int{-1, 1}, []int{2, -1}, []int{2, 1}),
			[][]int{{-1, 0, 1}, {0, -1, 1}, {0, 1, 1}, {1, 0, 2}}, false},
		{"a triangle whose first side is too far out", bodyOf(2, []int{-2, 0}, []int{1, 1}, []int{1, -2}),
			[][]int{{-2, -3, 4}, {-1, 3, 2}, {1, 0, 1}}, false},
		{"a cross", cross(3, 1), [][]int{{-1, -1, -1, 1}, {-1, -1, 1, 1}, {-1, 1, -1, 1}, {-1, 1, 1, 1},
			{1, -1, -1, 1}, {1, -1, 1, 1}, {1, 1, -1, 1}, {1, 1, 1, 1}}, true},
		{"a cube", cube(3, -1, 1), [][]int{{-1, 0, 0, 1}, {0, -1, 0, 1}, {0, 0, -1, 1}, {0, 0, 1, 1}, {0, 1, 0, 1}, {1, 0, 0, 1}}, true},
		{"the greatest cube of four", cube(4, -100, 100), [][]int{{-1, 0, 0, 0, 100}, {0, -1, 0, 0, 100}, {0, 0, -1, 0, 100}, {0, 0, 0, -1, 100},
			{0, 0, 0, 1, 100}, {0, 0, 1, 0, 100}, {0, 1, 0, 0, 100}, {1, 0, 0, 0, 100}}, false},
		{"a simplex of four", bodyOf(4, []int{1, 0, 0, 0}, []int{0, 1, 0, 0}, []int{0, 0, 1, 0}, []int{0, 0, 0, 1}, []int{-1, -1, -1, -1}),
			[][]int{{-4, 1, 1, 1, 1}, {1, -4, 1, 1, 1}, {1, 1, -4, 1, 1}, {1, 1, 1, -4, 1}, {1, 1, 1, 1, 1}}, true},
		{"beyond MaxCoord", bodyOf(2, []int{1, 99}, []int{0, 1}, []int{-1, -100}), [][]int{{-101, 1, 1}, {-98, 1, 1}, {199, -2, 1}}, true},
	}
}

// K1
func TestPolar(t *testing.T) {
	for _, c := range polarCases() {
		if got, e := polar.Corners(c.p); e != api.OK || !alike(got, c.corners) {
			t.Errorf("%s: Corners = %v, %d, want %v", c.what, got, e, c.corners)
		}
		if got, e := polar.Whole(c.p); e != api.OK || got != c.whole {
			t.Errorf("%s: Whole = %v, %d, want %v", c.what, got, e, c.whole)
		}
		got, e := polar.Turn(c.p)
		if !c.whole {
			if e != api.ErrForm || got.Dim != 0 || len(got.Points) != 0 {
				t.Errorf("%s: Turn = %v, %d, want error %d", c.what, got, e, api.ErrForm)
			}
			continue
		}
		var want [][]int
		for _, corner := range c.corners {
			want = append(want, corner[:c.p.Dim])
		}
		if e != api.OK || got.Dim != c.p.Dim || !alike(got.Points, want) {
			t.Errorf("%s: Turn = %v, %d, want %v", c.what, got, e, want)
		}
	}
}

// K1: more corners than a polytope that is handed in may have points.
func TestPolarOfManySides(t *testing.T) {
	p := bodyOf(4)
	for _, x := range [][]int{{1, 0}, {1, 1}, {0, 1}, {-1, 0}, {-1, -1}, {0, -1}} {
		p.Points = append(p.Points, []int{x[0], x[1], 0, 0}, []int{0, 0, x[0], x[1]})
	}
	if got, e := polar.Turn(p); e != api.OK || len(got.Points) != 36 || hull.Check(got) != api.ErrCount {
		t.Errorf("polar.Turn(%v) = %v, %d, want 36 points", p, got, e)
	}
	corners, e := polar.Corners(crowded())
	if e != api.OK || len(corners) != 252 || !slices.IsSortedFunc(corners, slices.Compare[[]int]) {
		t.Errorf("polar.Corners of the most sides: %d, error %d", len(corners), e)
	}
	if got, e := polar.Corners(twentyFour()); e != api.OK || len(got) != 24 {
		t.Errorf("polar.Corners(%v) = %v, %d", twentyFour(), got, e)
	}
}

// K1: 0 on a side, at a corner, outside; and what hull.Check says is told first.
func TestPolarErrors(t *testing.T) {
	shifted := func(p api.Polytope, by int) api.Polytope {
		for _, x := range p.Points {
			x[0] += by
		}
		return p
	}
	cases := []hullCheckCase{
		{"0 at an end", bodyOf(1, []int{0}, []int{5}), api.ErrPlace},
		{"0 at the other end", bodyOf(1, []int{-5}, []int{0}), api.ErrPlace},
		{"a segment beyond 0", bodyOf(1, []int{3}, []int{5}), api.ErrPlace},
		{"0 at a corner", cube(2, 0, 2), api.ErrPlace},
		{"0 at the last corner", cube(2, -2, 0), api.ErrPlace},
		{"0 on a side", shifted(cube(2, -1, 1), 1), api.ErrPlace},
		{"0 on the other side", shifted(cube(2, -1, 1), -1), api.ErrPlace},
		{"0 on an edge", shifted(cube(3, -1, 1), -1), api.ErrPlace},
		{"0 outside", shifted(cube(2, -1, 1), 2), api.ErrPlace},
		{"0 outside, a point there twice", bodyOf(2, []int{1, 0}, []int{2, 0}, []int{1, 1}, []int{1, 0}), api.ErrPlace},
		{"0 beyond one of many rows", shifted(cross(4, 1), 2), api.ErrPlace},
		{"0 at one of the corners of a cross", shifted(cross(4, 1), 1), api.ErrPlace},
		{"flat, and 0 is not inside", bodyOf(2, []int{1, 1}, []int{2, 2}), api.ErrFlat},
		{"flat, and 0 is between", bodyOf(2, []int{-1, -1}, []int{2, 2}), api.ErrFlat},
	}
	for _, c := range hullCheckCases() {
		if c.want != api.OK {
			cases = append(cases, c)
		}
	}
	for _, c := range cases {
		if r, e := polar.Corners(c.p); e != c.want || len(r) != 0 {
			t.Errorf("%s: Corners = %v, %d, want error %d", c.what, r, e, c.want)
		}
		if r, e := polar.Whole(c.p); e != c.want || r {
			t.Errorf("%s: Whole = %v, %d, want error %d", c.what, r, e, c.want)
		}
		if r, e := polar.Turn(c.p); e != c.want || r.Dim != 0 || len(r.Points) != 0 {
			t.Errorf("%s: Turn = %v, %d, want error %d", c.what, r, e, c.want)
		}
	}
}

// aroundZero is drawn until 0 is inside.
func aroundZero(d *die, dim int) api.Polytope {
	for range 10000 {
		p := drawn(d, dim)
		if at, _ := hull.Where(p, make([]int, dim)); at == -1 {
			return p
		}
	}
	panic("0 is never inside")
}

// K1: the polar is what the points, as rows x y at most 1, cut out.
func TestPolarIsACut(t *testing.T) {
	d := die(41)
	for round := range 80 {
		p := aroundZero(&d, 1+round%4)
		c := api.Cut{Dim: p.Dim}
		for _, x := range p.Points {
			c.Rows = append(c.Rows, append(slices.Clone(x), 1))
		}
		want, _ := half.Corners(c)
		if got, e := polar.Corners(p); e != api.OK || len(want) == 0 || !alike(got, want) {
			t.Errorf("polar.Corners(%v) = %v, %d, want %v", p, got, e, want)
		}
		whole := !slices.ContainsFunc(want, func(x []int) bool { return x[p.Dim] != 1 })
		if got, e := polar.Whole(p); e != api.OK || got != whole {
			t.Errorf("polar.Whole(%v) = %v, %d, want %v", p, got, e, whole)
		}
	}
}

// Point 2 of the whole: turned about twice is as it was; and once, its faces are turned over.
func TestPolarTwice(t *testing.T) {
	d := die(42)
	whole := 0
	for round := range 800 {
		p := aroundZero(&d, 1+round%4)
		q, e := polar.Turn(p)
		if e != api.OK {
			continue
		}
		whole++
		corners, _ := hull.Corners(p)
		if back, e := polar.Turn(q); e != api.OK || back.Dim != p.Dim || !alike(back.Points, corners) {
			t.Errorf("%v turned about is %v, and twice %v, %d", p, q, back, e)
		}
		counts, _ := face.Counts(p)
		slices.Reverse(counts)
		if turned, _ := face.Counts(q); !slices.Equal(turned, counts) {
			t.Errorf("%v turned about is %v: %v faces, want %v", p, q, turned, counts)
		}
		simplicial, simple, _ := face.Kind(p)
		if a, b, _ := face.Kind(q); a != simple || b != simplicial {
			t.Errorf("%v turned about is %v: kinds %v, %v and %v, %v", p, q, simplicial, simple, a, b)
		}
	}
	if whole < 30 {
		t.Errorf("%d whole ones are too few to tell", whole)
	}
}

// Z2
func TestPolarLists(t *testing.T) {
	points := append(cube(3, -1, 1).Points, []int{0, 0, 0}, []int{1, 1, 1})
	p := api.Polytope{Dim: 3, Points: roomyLists(points)}
	outer, inner := [][][]int{p.Points}, p.Points
	for range 2 {
		corners, e := polar.Corners(p)
		turned, f := polar.Turn(p)
		whole, g := polar.Whole(p)
		if e != api.OK || f != api.OK || g != api.OK || !whole {
			t.Errorf("errors %d, %d, %d; Whole = %v", e, f, g, whole)
		}
		outer = append(outer, corners, turned.Points)
		inner = slices.Concat(inner, corners, turned.Points)
	}
	if !untouchedLists(p.Points, points) {
		t.Error("what was handed in is not as it was")
	}
	if len(inner) != 34 || !apart(outer...) || !apart(inner...) {
		t.Error("lists share memory")
	}
}
