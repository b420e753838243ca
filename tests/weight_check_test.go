package tests

import (
	"math"
	"testing"

	"facet/api"
	"facet/weight"
)

type weightCheckCase struct {
	what string
	c    [][]int
	top  []int
	want api.Errno
}

func weightCheckCases() []weightCheckCase {
	a2, b3 := writtenSquare("A2"), writtenSquare("B3")
	cases := []weightCheckCase{
		{"all 0", a2, []int{0, 0}, api.OK},
		{"the most, in one place", a2, []int{6, 0}, api.OK},
		{"rank 1", writtenSquare("A1"), []int{6}, api.OK},
		{"rank 3", b3, []int{0, 0, 1}, api.OK},
		{"rank 3, of three parts", writtenSquare("A1+A1+A1"), []int{6, 6, 6}, api.OK},
		{"rank 4", writtenSquare("A4"), []int{0, 0, 0, 0}, api.ErrDim},
		{"rank 4, of parts", writtenSquare("B2+A1+A1"), []int{0, 0, 0, 0}, api.ErrDim},
		{"the rank ahead of the count", writtenSquare("A4"), []int{0, 0}, api.ErrDim},
		{"the rank ahead of the value", writtenSquare("D4"), []int{0, 0, 0, 7}, api.ErrDim},
		{"too few", a2, []int{1}, api.ErrCount},
		{"too many", a2, []int{1, 0, 0}, api.ErrCount},
		{"none", a2, nil, api.ErrCount},
		{"none of one", writtenSquare("A1"), []int{}, api.ErrCount},
		{"the count ahead of the value", a2, []int{7}, api.ErrCount},
		{"7", a2, []int{7, 0}, api.ErrValue},
		{"7 in the last place", b3, []int{0, 0, 7}, api.ErrValue},
		{"below 0", a2, []int{0, -1}, api.ErrValue},
		{"the greatest int", a2, []int{math.MaxInt, 0}, api.ErrValue},
		{"the least int", a2, []int{0, math.MinInt}, api.ErrValue},
	}
	for _, c := range rootCheckCases() {
		if c.want != api.OK {
			cases = append(cases, weightCheckCase{c.what, c.c, []int{1}, c.want}, weightCheckCase{c.what, c.c, make([]int, len(c.c)), c.want})
		}
	}
	return cases
}

// W1: all calls with a top say first what Check says.
func TestWeightCheck(t *testing.T) {
	for _, c := range weightCheckCases() {
		m, zero := copied(c.c), make([]int, len(c.c))
		var answers [6]api.Errno
		answers[0] = weight.Check(m, c.top)
		size, e := weight.Size(m, c.top)
		answers[1] = e
		marks, e := weight.Marks(m, c.top)
		answers[2] = e
		often, e := weight.Often(m, c.top, zero)
		answers[3] = e
		first, e := weight.Together(m, c.top, zero)
		answers[4] = e
		second, e := weight.Together(m, zero, c.top)
		answers[5] = e
		want := [6]api.Errno{c.want, c.want, c.want, c.want, c.want, c.want}
		if answers != want {
			t.Errorf("%s: %v, %v: %v, want %d", c.what, c.c, c.top, answers, c.want)
		}
		if c.want != api.OK && (size != 0 || len(marks) > 0 || often != 0 || len(first) > 0 || len(second) > 0) {
			t.Errorf("%s: %v, %v: beside an error %d, %v, %d, %v, %v", c.what, c.c, c.top, size, marks, often, first, second)
		}
		if !alike(m, c.c) {
			t.Errorf("%s: %v became %v", c.what, c.c, m)
		}
	}
}

// W2: Marks, Often and Together have a bound; Size has none.
func TestWeightLimit(t *testing.T) {
	for _, of := range []struct {
		name string
		top  []int
		size int
		want api.Errno
	}{
		{"A1+B2", []int{4, 3, 1}, 400, api.OK},
		{"A1+B2", []int{4, 2, 2}, 405, api.ErrLimit},
		{"B2", []int{5, 2}, 405, api.ErrLimit},
		{"A2", []int{6, 6}, 343, api.OK},
		{"A1+A1+A1", []int{6, 6, 6}, 343, api.OK},
		{"A1+A2", []int{4, 3, 4}, 450, api.ErrLimit},
		{"A3", []int{6, 6, 6}, 117649, api.ErrLimit},
		{"B3", []int{6, 6, 6}, 40353607, api.ErrLimit},
		{"C3", []int{6, 6, 6}, 40353607, api.ErrLimit},
		{"G2", []int{6, 6}, 117649, api.ErrLimit},
		{"A1+G2", []int{6, 6, 6}, 823543, api.ErrLimit},
	} {
		c, zero := writtenSquare(of.name), make([]int, len(of.top))
		if size, e := weight.Size(c, of.top); e != api.OK || size != of.size {
			t.Errorf("weight.Size of %s, %v = %d, %d, want %d", of.name, of.top, size, e, of.size)
		}
		marks, e := weight.Marks(c, of.top)
		often, f := weight.Often(c, of.top, zero)
		first, g := weight.Together(c, of.top, zero)
		second, h := weight.Together(c, zero, of.top)
		if got := [4]api.Errno{e, f, g, h}; got != [4]api.Errno{of.want, of.want, of.want, of.want} {
			t.Errorf("%s, %v: %v, want %d", of.name, of.top, got, of.want)
		}
		if of.want != api.OK && (len(marks) > 0 || often != 0 || len(first) > 0 || len(second) > 0) {
			t.Errorf("%s, %v: beside an error %v, %d, %v, %v", of.name, of.top, marks, often, first, second)
		}
	}
}

// W3: of each the first error that is named.
func TestWeightOftenSays(t *testing.T) {
	for _, of := range []struct {
		name   string
		top, w []int
		want   api.Errno
	}{
		{"A2", []int{1, 1}, []int{12, -12}, api.OK},
		{"A2", []int{1, 1}, []int{13, 0}, api.ErrValue},
		{"A2", []int{1, 1}, []int{0, -13}, api.ErrValue},
		{"A2", []int{1, 1}, []int{0, math.MinInt}, api.ErrValue},
		{"A2", []int{1, 1}, []int{math.MaxInt, 0}, api.ErrValue},
		{"A2", []int{1, 1}, []int{0}, api.ErrCount},
		{"A2", []int{1, 1}, []int{0, 0, 0}, api.ErrCount},
		{"A2", []int{1, 1}, nil, api.ErrCount},
		{"A2", []int{1, 1}, []int{99}, api.ErrCount},
		{"B2", []int{5, 2}, []int{99}, api.ErrLimit},
		{"B2", []int{5, 2}, []int{13, 0}, api.ErrLimit},
		{"B2", []int{5, 7}, []int{99}, api.ErrValue},
		{"B2", []int{7}, []int{99, 0}, api.ErrCount},
		{"A4", []int{1, 1, 1, 1}, []int{99}, api.ErrDim},
	} {
		c := writtenSquare(of.name)
		if got, e := weight.Often(c, of.top, of.w); e != of.want || got != 0 {
			t.Errorf("weight.Often of %s, %v, %v = %d, %d, want %d", of.name, of.top, of.w, got, e, of.want)
		}
	}
}

// W3: Ways goes by root.Check, so up to MaxRank, then by its own list.
func TestWeightWaysSays(t *testing.T) {
	for _, of := range []struct {
		name string
		b    []int
		want api.Errno
	}{
		{"A4", []int{12, 12, 12, 12}, api.OK},
		{"F4", []int{-12, 12, 12, 12}, api.OK},
		{"A4", []int{13, 0, 0, 0}, api.ErrValue},
		{"A4", []int{0, 0, 0, -13}, api.ErrValue},
		{"A1", []int{math.MaxInt}, api.ErrValue},
		{"A1", []int{math.MinInt}, api.ErrValue},
		{"A2", []int{-1, 13}, api.ErrValue},
		{"A4", []int{1, 1, 1}, api.ErrCount},
		{"A4", []int{1, 1, 1, 1, 1}, api.ErrCount},
		{"A1", nil, api.ErrCount},
		{"A2", []int{13}, api.ErrCount},
	} {
		if got, e := weight.Ways(writtenSquare(of.name), of.b); e != of.want || e != api.OK && got != 0 {
			t.Errorf("weight.Ways of %s, %v = %d, %d, want %d", of.name, of.b, got, e, of.want)
		}
	}
	for _, c := range rootCheckCases() {
		if c.want == api.OK {
			continue
		}
		for _, b := range [][]int{nil, {99}, make([]int, len(c.c))} {
			if got, e := weight.Ways(copied(c.c), b); e != c.want || got != 0 {
				t.Errorf("%s: weight.Ways(%v, %v) = %d, %d, want %d", c.what, c.c, b, got, e, c.want)
			}
		}
	}
}

// W4: all that Marks says of a, its bound, too, ahead of what it says of b.
func TestWeightTogetherSays(t *testing.T) {
	for _, of := range []struct {
		name string
		a, b []int
		want api.Errno
	}{
		{"B2", []int{5, 2}, []int{7}, api.ErrLimit},
		{"B2", []int{5, 2}, []int{7, 0}, api.ErrLimit},
		{"B2", []int{7, 0}, []int{7}, api.ErrValue},
		{"B2", []int{7}, []int{7, 0}, api.ErrCount},
		{"B2", []int{1, 0}, []int{7}, api.ErrCount},
		{"B2", []int{1, 0}, []int{0, 7}, api.ErrValue},
		{"B2", []int{1, 0}, []int{-1, 0}, api.ErrValue},
		{"B2", []int{1, 0}, []int{5, 2}, api.ErrLimit},
		{"A4", []int{1}, []int{7}, api.ErrDim},
	} {
		if got, e := weight.Together(writtenSquare(of.name), of.a, of.b); e != of.want || len(got) > 0 {
			t.Errorf("weight.Together of %s, %v, %v = %v, %d, want %d", of.name, of.a, of.b, got, e, of.want)
		}
	}
}
