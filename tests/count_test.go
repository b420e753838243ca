package tests

import (
	"math"
	"slices"
	"testing"

	"facet/api"
	"facet/count"
)

// brick has so much width in each direction, about half of it below 0.
func brick(widths ...int) api.Polytope {
	p := cube(len(widths), 0, 1)
	for _, x := range p.Points {
		for i := range x {
			x[i] = x[i]*widths[i] - widths[i]/2
		}
	}
	return p
}

type countCase struct {
	what           string
	p              api.Polytope
	many, inner    []int // of k = 0, 1, 2, 3; of k = 1, 2, 3
	ehrhart, delta []int
}

func countCases() []countCase {
	return []countCase{
		{"the square", bodyOf(2, append(cube(2, 0, 2).Points, []int{1, 1})...), []int{1, 9, 25, 49}, []int{1, 9, 25}, []int{2, 8, 8}, []int{1, 6, 1}},
		{"a segment", bodyOf(1, []int{-3}, []int{2}, []int{0}), []int{1, 6, 11, 16}, []int{4, 9, 14}, []int{1, 5}, []int{1, 4}},
		{"the least segment", bodyOf(1, []int{7}, []int{8}), []int{1, 2, 3, 4}, []int{0, 1, 2}, []int{1, 1}, []int{1, 0}},
		{"a triangle", bodyOf(2, []int{1, 0}, []int{0, 1}, []int{-1, -1}), []int{1, 4, 10, 19}, []int{1, 4, 10}, []int{2, 3, 3}, []int{1, 1, 1}},
		{"the least triangle", bodyOf(2, simplex(2, 1)...), []int{1, 3, 6, 10}, []int{0, 0, 1}, []int{2, 3, 1}, []int{1, 0, 0}},
		{"that one, far out", bodyOf(2, []int{-99, -100}, []int{-100, -99}, []int{-100, -100}), []int{1, 3, 6, 10}, []int{0, 0, 1}, []int{2, 3, 1}, []int{1, 0, 0}},
		{"a sliver", bodyOf(2, []int{0, 0}, []int{1, 2}, []int{2, 3}), []int{1, 3, 6, 10}, []int{0, 0, 1}, []int{2, 3, 1}, []int{1, 0, 0}},
		{"a cube of edges 1", cube(3, 0, 1), []int{1, 8, 27, 64}, []int{0, 1, 8}, []int{6, 18, 18, 6}, []int{1, 4, 1, 0}},
		{"a simplex without places beyond its corners", bodyOf(3, []int{0, 0, 0}, []int{1, 0, 0}, []int{0, 1, 0}, []int{1, 1, 3}),
			[]int{1, 4, 12, 28}, []int{0, 2, 8}, []int{6, 9, 6, 3}, []int{1, 0, 2, 0}},
		{"a simplex whose linear coefficient is below 0", bodyOf(3, []int{0, 0, 0}, []int{1, 0, 0}, []int{0, 1, 0}, []int{1, 1, 13}),
			[]int{1, 4, 22, 68}, []int{0, 12, 48}, []int{6, -1, 6, 13}, []int{1, 0, 12, 0}},
		{"a cross of three", cross(3, 1), []int{1, 7, 25, 63}, []int{1, 7, 25}, []int{6, 16, 12, 8}, []int{1, 3, 3, 1}},
		{"a cube of four", cube(4, -1, 1), []int{1, 81, 625, 2401}, []int{1, 81, 625}, []int{24, 192, 576, 768, 384}, []int{1, 76, 230, 76, 1}},
		{"the least simplex of four", bodyOf(4, simplex(4, 1)...), []int{1, 5, 15, 35}, []int{0, 0, 0}, []int{24, 50, 35, 10, 1}, []int{1, 0, 0, 0, 0}},
	}
}

// P1
func TestCountPlaces(t *testing.T) {
	for _, c := range countCases() {
		for k, want := range c.many {
			if got, e := count.Points(c.p, k); e != api.OK || got != want {
				t.Errorf("%s: count.Points(%v, %d) = %d, %d, want %d", c.what, c.p, k, got, e, want)
			}
		}
		for i, want := range c.inner {
			if got, e := count.Inner(c.p, i+1); e != api.OK || got != want {
				t.Errorf("%s: count.Inner(%v, %d) = %d, %d, want %d", c.what, c.p, i+1, got, e, want)
			}
		}
	}
}

// P2
func TestCountPolynomials(t *testing.T) {
	for _, c := range countCases() {
		if got, e := count.Ehrhart(c.p); e != api.OK || !slices.Equal(got, c.ehrhart) {
			t.Errorf("%s: count.Ehrhart(%v) = %v, %d, want %v", c.what, c.p, got, e, c.ehrhart)
		}
		if got, e := count.Delta(c.p); e != api.OK || !slices.Equal(got, c.delta) {
			t.Errorf("%s: count.Delta(%v) = %v, %d, want %v", c.what, c.p, got, e, c.delta)
		}
	}
}

// P1: each error, and which is told first; boxes of MaxBox places and of the next number that boxes have.
func TestCountErrors(t *testing.T) {
	full, over := brick(39, 49, 99), brick(12, 84, 180)
	thin := bodyOf(3, []int{0, 0, 0}, []int{12, 0, -90}, []int{0, 84, 0}, []int{0, 0, 90})
	great, flat := cube(4, -100, 100), bodyOf(2, []int{0, 0}, []int{1, 1})
	for _, c := range []struct {
		what         string
		p            api.Polytope
		k            int
		want, within api.Errno // of Points, of Inner
	}{
		{"below 0", cube(2, 0, 1), -1, api.ErrPlace, api.ErrPlace},
		{"0", cube(2, 0, 1), 0, api.OK, api.ErrPlace},
		{"1", cube(2, 0, 1), 1, api.OK, api.OK},
		{"MaxTimes", cube(2, 0, 1), api.MaxTimes, api.OK, api.OK},
		{"one more", cube(2, 0, 1), api.MaxTimes + 1, api.ErrPlace, api.ErrPlace},
		{"the greatest int", cube(2, 0, 1), math.MaxInt, api.ErrPlace, api.ErrPlace},
		{"the least int", cube(2, 0, 1), math.MinInt, api.ErrPlace, api.ErrPlace},
		{"0 of a great one", great, 0, api.OK, api.ErrPlace},
		{"1 of a great one", great, 1, api.ErrLimit, api.ErrLimit},
		{"MaxTimes of a great one", great, api.MaxTimes, api.ErrLimit, api.ErrLimit},
		{"no such times ahead of the limit", great, api.MaxTimes + 1, api.ErrPlace, api.ErrPlace},
		{"below 0 ahead of the limit", great, -1, api.ErrPlace, api.ErrPlace},
		{"a box of MaxBox", full, 1, api.OK, api.OK},
		{"twice that", full, 2, api.ErrLimit, api.ErrLimit},
		{"a box of MaxBox + 5", over, 1, api.ErrLimit, api.ErrLimit},
		{"less in the same box", thin, 1, api.ErrLimit, api.ErrLimit},
		{"flat ahead of no such times", flat, -1, api.ErrFlat, api.ErrFlat},
		{"flat ahead of 0", flat, 0, api.ErrFlat, api.ErrFlat},
		{"a segment, the most times", bodyOf(1, []int{-100}, []int{100}), 6, api.OK, api.OK},
		{"a great square", cube(2, -100, 100), 2, api.OK, api.OK},
		{"a great square, more times", cube(2, -100, 100), 3, api.ErrLimit, api.ErrLimit},
	} {
		if got, e := count.Points(c.p, c.k); e != c.want || e != api.OK && got != 0 {
			t.Errorf("%s: count.Points(%v, %d) = %d, %d, want error %d", c.what, c.p, c.k, got, e, c.want)
		}
		if got, e := count.Inner(c.p, c.k); e != c.within || e != api.OK && got != 0 {
			t.Errorf("%s: count.Inner(%v, %d) = %d, %d, want error %d", c.what, c.p, c.k, got, e, c.within)
		}
	}
	if got, _ := count.Points(full, 1); got != api.MaxBox {
		t.Errorf("a box of MaxBox places has %d", got)
	}
	if got, _ := count.Inner(full, 1); got != 38*48*98 {
		t.Errorf("a box of MaxBox places has %d inside", got)
	}
}

// P1, P2: what hull.Check says is told first.
func TestCountSaysWhatCheckSays(t *testing.T) {
	for _, c := range hullCheckCases() {
		if c.want == api.OK {
			continue
		}
		for _, k := range []int{-1, 0, 1, 7} {
			if got, e := count.Points(c.p, k); e != c.want || got != 0 {
				t.Errorf("%s: count.Points(%v, %d) = %d, %d, want error %d", c.what, c.p, k, got, e, c.want)
			}
			if got, e := count.Inner(c.p, k); e != c.want || got != 0 {
				t.Errorf("%s: count.Inner(%v, %d) = %d, %d, want error %d", c.what, c.p, k, got, e, c.want)
			}
		}
		if got, e := count.Ehrhart(c.p); e != c.want || len(got) != 0 {
			t.Errorf("%s: count.Ehrhart(%v) = %v, %d, want error %d", c.what, c.p, got, e, c.want)
		}
		if got, e := count.Delta(c.p); e != c.want || len(got) != 0 {
			t.Errorf("%s: count.Delta(%v) = %v, %d, want error %d", c.what, c.p, got, e, c.want)
		}
	}
}

// P2: the limit is that of k = Dim, and of no greater one.
func TestCountPolynomialErrors(t *testing.T) {
	for _, c := range []struct {
		what string
		p    api.Polytope
		want api.Errno
	}{
		{"just below the limit", brick(6, 8, 140), api.OK}, // 19 25 421 = 199975
		{"just above it", brick(4, 28, 60), api.ErrLimit},  // 13 85 181 = 200005
		{"above it at 1", cube(3, -100, 100), api.ErrLimit},
		{"above it at 4", cube(4, 0, 6), api.ErrLimit},
		{"at 5 it would be above it", cube(4, 0, 5), api.OK},
		{"a segment never is", bodyOf(1, []int{-100}, []int{100}), api.OK},
		{"nor is a square", cube(2, -100, 100), api.OK},
	} {
		many, e := count.Ehrhart(c.p)
		delta, f := count.Delta(c.p)
		if e != c.want || f != c.want || e != api.OK && len(many)+len(delta) != 0 {
			t.Errorf("%s: of %v: %v, %d, %v, %d, want error %d", c.what, c.p, many, e, delta, f, c.want)
		}
	}
}

// Z2
func TestCountLists(t *testing.T) {
	points := roof().Points
	p := api.Polytope{Dim: 3, Points: roomyLists(points)}
	calls := []func() []int{
		func() []int { l, _ := count.Ehrhart(p); return l },
		func() []int { l, _ := count.Delta(p); return l },
		func() []int { n, _ := count.Points(p, 2); return []int{n} },
		func() []int { n, _ := count.Inner(p, 2); return []int{n} },
	}
	all := slices.Clone(p.Points)
	for i, call := range calls {
		first, second := call(), call()
		if len(first) == 0 || !slices.Equal(first, second) || !untouchedLists(p.Points, points) {
			t.Errorf("call %d: %v, %v", i, first, second)
		}
		all = append(all, first, second)
	}
	if !apart(all...) {
		t.Error("lists share memory")
	}
}
