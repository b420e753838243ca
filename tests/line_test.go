package tests

import (
	"math"
	"math/big"
	"slices"
	"testing"

	"facet/api"
	"facet/exact"
	"facet/face"
	"facet/hull"
	"facet/shell"
)

// D2
func TestLine(t *testing.T) {
	square := cube(2, 0, 2)
	segment := bodyOf(1, []int{20}, []int{-20}, []int{19}, []int{19})
	// Its corners' middle is (2, 4/3), its points' middle much nearer to (0, 0).
	heavy := api.Polytope{Dim: 2, Points: append(repeat([]int{0, 0}, 20), []int{6, 0}, []int{0, 4})}
	for _, c := range []struct {
		what string
		p    api.Polytope
		way  []int
		want [][]int
	}{
		{"the square", square, []int{2, 1}, [][]int{{2, 3}, {1, 3}, {0, 2}, {0, 1}}},
		{"the square, the other way", square, []int{-2, -1}, [][]int{{0, 1}, {0, 2}, {1, 3}, {2, 3}}},
		{"the square, far", square, []int{19, 20}, [][]int{{1, 3}, {2, 3}, {0, 1}, {0, 2}}},
		{"the square, back", square, []int{20, -19}, [][]int{{2, 3}, {0, 2}, {1, 3}, {0, 1}}},
		{"a segment", segment, []int{1}, [][]int{{1}, {0}}},
		{"a segment, the other way", segment, []int{-20}, [][]int{{0}, {1}}},
		{"a triangle along a side", bodyOf(2, simplex(2, 1)...), []int{1, 0}, [][]int{{1, 2}, {0, 2}, {0, 1}}},
		// heights: -x: -1 by 2; -y: -2 by 4/3; 2 x + 3 y: 8 by 4.
		{"a triangle with a point twenty times", heavy, []int{1, 2}, [][]int{{1, 2}, {0, 1}, {0, 2}}},
		{"a roof", roof(), []int{3, 1, 2}, [][]int{{2, 3, 4}, {1, 2, 4}, {0, 2, 3}, {0, 1, 2}, {0, 1, 3, 4}}},
	} {
		if got, e := shell.Line(c.p, c.way); e != api.OK || !alike(got, c.want) {
			t.Errorf("%s: shell.Line(%v, %v) = %v, %d, want %v", c.what, c.p, c.way, got, e, c.want)
		}
	}
}

// D2: each error, and which is told first; numbers at a limit and just beyond it.
func TestLineErrors(t *testing.T) {
	const most = api.MaxCut
	square, great := cube(2, 0, 2), cube(2, -most, most)
	above, below := bodyOf(2, []int{0, 0}, []int{0, most + 1}, []int{1, 0}), bodyOf(2, []int{0, 0}, []int{0, 1}, []int{-most - 1, 0})
	flat := bodyOf(2, []int{0, 0}, []int{1, 1})
	for _, c := range []struct {
		what string
		p    api.Polytope
		way  []int
		want api.Errno
	}{
		{"no way", square, nil, api.ErrForm},
		{"an empty way", square, []int{}, api.ErrForm},
		{"a way too short", square, []int{1}, api.ErrForm},
		{"a way too long", square, []int{1, 2, 3}, api.ErrForm},
		{"too short ahead of beyond", square, []int{most + 1}, api.ErrForm},
		{"a way at the limit", square, []int{most, -most + 1}, api.OK},
		{"a way above it", square, []int{most + 1, 0}, api.ErrValue},
		{"a way below it", square, []int{1, -most - 1}, api.ErrValue},
		{"the least int", square, []int{math.MinInt, 0}, api.ErrValue},
		{"the greatest int", square, []int{0, math.MaxInt}, api.ErrValue},
		{"points at the limit", great, []int{1, 2}, api.OK},
		{"a point above it", above, []int{1, 2}, api.ErrValue},
		{"a point below it", below, []int{1, 2}, api.ErrValue},
		{"a point at MaxCoord", cube(2, 0, api.MaxCoord), []int{1, 2}, api.ErrValue},
		{"the way's length ahead of the points", above, []int{1}, api.ErrForm},
		{"points beyond ahead of the same height", cube(2, 0, most+1), []int{0, 0}, api.ErrValue},
		{"flat ahead of all of the way", flat, nil, api.ErrFlat},
		{"flat ahead of a value", flat, []int{most + 1, 0}, api.ErrFlat},
		{"0 everywhere", square, []int{0, 0}, api.ErrTwice},
		{"0 everywhere, of one dimension", bodyOf(1, []int{0}, []int{1}), []int{0}, api.ErrTwice},
		{"0 everywhere, of four dimensions", cross(4, 1), []int{0, 0, 0, 0}, api.ErrTwice},
		{"two ahead at once", square, []int{1, 1}, api.ErrTwice},
		{"along two sides", square, []int{0, 1}, api.ErrTwice},
		{"along a side", bodyOf(2, simplex(2, 1)...), []int{1, 0}, api.OK},
		{"to a corner", bodyOf(2, simplex(2, 1)...), []int{1, 1}, api.ErrTwice},
		// -x: -2 by 1; -y: -4 by 2: the same, as quotients.
		{"the same height by other numbers", bodyOf(2, []int{0, 0}, []int{2, 0}, []int{0, 4}, []int{2, 4}), []int{2, 4}, api.ErrTwice},
	} {
		if got, e := shell.Line(c.p, c.way); e != c.want || e != api.OK && len(got) != 0 {
			t.Errorf("%s: shell.Line(%v, %v) = %v, %d, want error %d", c.what, c.p, c.way, got, e, c.want)
		}
	}
	for _, c := range hullCheckCases() {
		for _, way := range [][]int{nil, {1}, {1, 2}, {999}} {
			if got, e := shell.Line(c.p, way); c.want != api.OK && (e != c.want || len(got) != 0) {
				t.Errorf("%s: shell.Line(%v, %v) = %v, %d, want error %d", c.what, c.p, way, got, e, c.want)
			}
		}
	}
}

// lineByWords goes by D2 in quotients; false: two heights are the same.
func lineByWords(p api.Polytope, way []int) ([][]int, bool) {
	rows, _ := hull.Rows(p)
	corners, _ := hull.Corners(p)
	type met struct {
		height *big.Rat
		side   []int
	}
	var all []met
	for _, row := range rows {
		a, far := row[:p.Dim], big.NewRat(int64(row[p.Dim]), 1)
		var side []int
		for i, x := range corners {
			far.Sub(far, big.NewRat(int64(exact.Product(a, x)), int64(len(corners))))
			if exact.Product(a, x) == row[p.Dim] {
				side = append(side, i)
			}
		}
		all = append(all, met{new(big.Rat).Quo(big.NewRat(int64(exact.Product(a, way)), 1), far), side})
	}
	slices.SortFunc(all, func(x, y met) int { return y.height.Cmp(x.height) })
	var out [][]int
	for i, m := range all {
		if i > 0 && m.height.Cmp(all[i-1].height) == 0 {
			return nil, false
		}
		out = append(out, m.side)
	}
	return out, true
}

// D2: by small numbers, and by numbers at the limit.
func TestLineByWords(t *testing.T) {
	d := die(61)
	twice := 0
	for round := range 240 {
		dim := 1 + round%4
		p, way := drawn(&d, dim), d.list(dim, 3)
		if round%2 == 0 {
			p = api.Polytope{Dim: dim, Points: append(simplex(dim, -api.MaxCut), d.lists(8, dim, api.MaxCut)...)}
			way = d.list(dim, api.MaxCut)
		}
		want, ok := lineByWords(p, way)
		e := api.OK
		if !ok {
			e = api.ErrTwice
			twice++
		}
		if got, f := shell.Line(p, way); f != e || !alike(got, want) {
			t.Errorf("shell.Line(%v, %v) = %v, %d, want %v, %d", p, way, got, f, want, e)
		}
	}
	if twice < 20 || twice > 120 {
		t.Errorf("of 240 ways %d have two of the same height", twice)
	}
}

// Point 2 of the whole: a line shells, and what its simplices have is what Short tells.
func TestLineShells(t *testing.T) {
	d := die(62)
	shells := 0
	for round := range 300 {
		dim := 1 + round%4
		p := api.Polytope{Dim: dim, Points: append(simplex(dim, -7), d.lists(d.below(5), dim, 12)...)}
		l, e := shell.Line(p, d.list(dim, api.MaxCut))
		short, f := face.Short(p)
		if e != api.OK || f != api.OK || len(l) > api.MaxFacets {
			continue
		}
		shells++
		if ok, many, e := shell.Shells(l); e != api.OK || !ok || !slices.Equal(many, short) {
			t.Errorf("%v: shell.Shells(%v) = %v, %v, %d, want %v", p, l, ok, many, e, short)
		}
	}
	if shells < 150 {
		t.Errorf("%d shells are too few to tell", shells)
	}
}

// D2: the sides are the faces of dimension Dim - 1, in another order.
func TestLineSidesAreFaces(t *testing.T) {
	for _, p := range []api.Polytope{roof(), tower(), cube(4, -1, 1), cross(4, 20), twentyFour()} {
		way := []int{20, 11, 5, 2}[:p.Dim]
		l, e := shell.Line(p, way)
		lattice, _ := face.Lattice(p)
		slices.SortFunc(l, slices.Compare[[]int])
		if e != api.OK || !alike(l, lattice[p.Dim]) {
			t.Errorf("shell.Line(%v, %v), in order: %v, %d, want %v", p, way, l, e, lattice[p.Dim])
		}
	}
}

// Z2
func TestLineLists(t *testing.T) {
	points, way := roof().Points, roomy([]int{3, 1, 2})
	p := api.Polytope{Dim: 3, Points: roomyLists(points)}
	l, e := shell.Line(p, way)
	again, _ := shell.Line(p, way)
	if e != api.OK || len(l) != 5 || !untouchedLists(p.Points, points) || !untouched(way, []int{3, 1, 2}) {
		t.Errorf("shell.Line(%v, %v) = %v, %d", p, way, l, e)
	}
	if !apart(p.Points, l, again) || !apart(append(slices.Concat(p.Points, l, again), way)...) {
		t.Error("lists share memory")
	}
}
