package tests

import (
	"math"
	"slices"
	"testing"

	"facet/api"
	"facet/shell"
)

// path is edges, one behind the other.
func path(many int) [][]int {
	var l [][]int
	for i := range many {
		l = append(l, []int{i, i + 1})
	}
	return l
}

func shellCheckCases() []struct {
	what string
	l    [][]int
	want api.Errno
} {
	return []struct {
		what string
		l    [][]int
		want api.Errno
	}{
		{"nil", nil, api.ErrCount},
		{"no list", [][]int{}, api.ErrCount},
		{"one list", [][]int{{0}}, api.OK},
		{"MaxFacets lists", path(api.MaxFacets), api.OK},
		{"one more", path(api.MaxFacets + 1), api.ErrCount},
		{"the count ahead of all else", repeat([]int{99, -1, 3, 3, 3, 3}, api.MaxFacets+1), api.ErrCount},

		{"an empty list", [][]int{{}}, api.ErrForm},
		{"a list that is nil", [][]int{nil, {1}}, api.ErrForm},
		{"as many as may be", [][]int{{0, 1, 2, 3, 4}}, api.OK},
		{"one more than may be", [][]int{{0, 1, 2, 3, 4, 5}}, api.ErrForm},
		{"shorter than the first", [][]int{{0, 1}, {2}}, api.ErrForm},
		{"longer than the first", [][]int{{0, 1}, {2, 3, 4}}, api.ErrForm},
		{"the last one empty", [][]int{{0, 1}, {1, 2}, {}}, api.ErrForm},
		{"a list's length ahead of its numbers", [][]int{{0, 1}, {64}}, api.ErrForm},
		{"too long, ahead of its numbers", [][]int{{-1, -1, -1, -1, -1, -1}}, api.ErrForm},

		{"the least and the greatest number", [][]int{{0, 63}}, api.OK},
		{"below 0", [][]int{{-1, 5}}, api.ErrValue},
		{"above 63", [][]int{{5, 64}}, api.ErrValue},
		{"the least int", [][]int{{0, 1}, {math.MinInt, 1}}, api.ErrValue},
		{"the greatest int", [][]int{{0, 1}, {1, math.MaxInt}}, api.ErrValue},
		{"falling", [][]int{{3, 2}}, api.ErrForm},
		{"a number twice", [][]int{{1, 3, 3}}, api.ErrForm},
		{"falling at the end", [][]int{{0, 1, 2, 3, 2}}, api.ErrForm},
		{"a number's value ahead of its order", [][]int{{3, -1}}, api.ErrValue},
		{"an order ahead of the next one's value", [][]int{{3, 2, 64}}, api.ErrForm},
		{"a value ahead of the next one's order", [][]int{{64, 2, 3}}, api.ErrValue},

		{"a list twice", [][]int{{0, 1}, {0, 1}}, api.ErrTwice},
		{"a list that stood far ahead", [][]int{{0, 1}, {1, 2}, {0, 3}, {0, 1}}, api.ErrTwice},
		{"a list that stood ahead, but not first", [][]int{{0, 1}, {1, 2}, {0, 3}, {1, 2}}, api.ErrTwice},
		{"almost a list that stood ahead", [][]int{{0, 1, 2}, {0, 1, 3}}, api.OK},
		{"a value ahead of a list twice", [][]int{{0, 1}, {0, 64}, {0, 1}}, api.ErrValue},
		{"a list twice ahead of the next one's value", [][]int{{0, 1}, {0, 1}, {0, 64}}, api.ErrTwice},
		{"a list twice ahead of the next one's form", [][]int{{0, 1}, {0, 1}, {0}}, api.ErrTwice},
		{"the first one's value ahead of the second's form", [][]int{{0, 64}, {0}}, api.ErrValue},
	}
}

// D1, Z1
func TestShellCheck(t *testing.T) {
	for _, c := range shellCheckCases() {
		if got := shell.Check(c.l); got != c.want {
			t.Errorf("%s: shell.Check(%v) = %d, want %d", c.what, c.l, got, c.want)
		}
		ok, many, e := shell.Shells(c.l)
		if e != c.want || e != api.OK && (ok || len(many) != 0) {
			t.Errorf("%s: shell.Shells(%v) = %v, %v, %d, want error %d", c.what, c.l, ok, many, e, c.want)
		}
	}
}

// D1
func TestShells(t *testing.T) {
	points := [][]int{}
	for i := range api.MaxFacets {
		points = append(points, []int{63 - i})
	}
	for _, c := range []struct {
		what string
		l    [][]int
		want bool
		many []int
	}{
		{"a square", [][]int{{0, 1}, {1, 2}, {2, 3}, {0, 3}}, true, []int{1, 2, 1}},
		{"edges that have nothing in common", [][]int{{0, 1}, {2, 3}}, false, nil},
		{"edges that something joins too late", [][]int{{0, 1}, {2, 3}, {1, 2}}, false, nil},
		{"those edges in another order", [][]int{{0, 1}, {1, 2}, {2, 3}}, true, []int{1, 2, 0}},
		{"one point", [][]int{{63}}, true, []int{1, 0}},
		{"the most points", points, true, []int{1, 39}},
		{"one triangle", [][]int{{0, 1, 63}}, true, []int{1, 0, 0, 0}},
		{"one of five numbers", [][]int{{2, 3, 5, 7, 11}}, true, []int{1, 0, 0, 0, 0, 0}},
		{"the most edges", path(api.MaxFacets), true, []int{1, 39, 0}},
		{"a tetrahedron", [][]int{{0, 1, 2}, {0, 1, 3}, {0, 2, 3}, {1, 2, 3}}, true, []int{1, 1, 1, 1}},
		{"triangles that have one point in common", [][]int{{0, 1, 2}, {2, 3, 4}}, false, nil},
		{"triangles that have nothing in common", [][]int{{0, 1, 2}, {3, 4, 5}}, false, nil},
		{"a side, and a point beside it", [][]int{{0, 1, 2}, {1, 2, 3}, {2, 3, 4}, {0, 3, 4}}, false, nil},
		{"a side, and a point that another side has", [][]int{{0, 1, 2}, {0, 2, 3}, {0, 1, 3}}, true, []int{1, 1, 1, 0}},
		{"the last one falls out", [][]int{{0, 1, 2}, {1, 2, 3}, {2, 3, 4}, {5, 6, 7}}, false, nil},
		{"a fan", [][]int{{0, 1, 2}, {0, 2, 3}, {0, 3, 4}, {0, 4, 5}, {0, 1, 5}}, true, []int{1, 3, 1, 0}},
		{"solids around an edge", [][]int{{0, 1, 2, 3}, {0, 1, 3, 4}, {0, 1, 2, 4}}, true, []int{1, 1, 1, 0, 0}},
		{"solids that have an edge in common", [][]int{{0, 1, 2, 3}, {0, 1, 4, 5}}, false, nil},
	} {
		ok, many, e := shell.Shells(c.l)
		if e != api.OK || ok != c.want || !slices.Equal(many, c.many) {
			t.Errorf("%s: shell.Shells(%v) = %v, %v, %d, want %v, %v", c.what, c.l, ok, many, e, c.want, c.many)
		}
	}
}

func common(a, b []int) []int {
	var out []int
	for _, v := range a {
		if slices.Contains(b, v) {
			out = append(out, v)
		}
	}
	return out
}

// shellsByWords goes by D1, word by word.
func shellsByWords(l [][]int) (bool, []int) {
	many := make([]int, len(l[0])+1)
	for i, list := range l {
		for _, ahead := range l[:i] {
			if !slices.ContainsFunc(l[:i], func(other []int) bool {
				return len(common(list, other)) == len(list)-1 && isIn(common(list, ahead), other)
			}) {
				return false, nil
			}
		}
		numbers := 0
		for k := range list {
			others := slices.Delete(slices.Clone(list), k, k+1)
			if slices.ContainsFunc(l[:i], func(ahead []int) bool { return isIn(others, ahead) }) {
				numbers++
			}
		}
		many[numbers]++
	}
	return true, many
}

// D1: drawn lists of all lengths, some of which shell.
func TestShellsByWords(t *testing.T) {
	d := die(51)
	yes, no := 0, 0
	for round := range 3000 {
		long := 1 + round%5
		all := choices(long+1+d.below(3), long)
		var l [][]int
		for range 1 + d.below(5) {
			if list := all[d.below(len(all))]; !slices.ContainsFunc(l, func(m []int) bool { return slices.Equal(m, list) }) {
				l = append(l, list)
			}
		}
		want, many := shellsByWords(l)
		ok, got, e := shell.Shells(l)
		if e != api.OK || ok != want || !slices.Equal(got, many) {
			t.Errorf("shell.Shells(%v) = %v, %v, %d, want %v, %v", l, ok, got, e, want, many)
		}
		if want {
			yes++
		} else {
			no++
		}
	}
	if yes < 300 || no < 300 {
		t.Errorf("%d shell, %d don't: too few to tell", yes, no)
	}
}

// Z2
func TestShellLists(t *testing.T) {
	lists := [][]int{{0, 1, 2}, {0, 1, 3}, {0, 2, 3}}
	l := roomyLists(lists)
	e := shell.Check(l)
	ok, many, f := shell.Shells(l)
	_, again, _ := shell.Shells(l)
	if e != api.OK || f != api.OK || !ok || !untouchedLists(l, lists) {
		t.Errorf("errors %d, %d; %v; %v", e, f, ok, l)
	}
	if len(many) != 4 || !apart(append(slices.Clone(l), many, again)...) {
		t.Error("lists share memory")
	}
}
