package tests

import (
	"math"
	"slices"
	"testing"

	"facet/api"
	"facet/weyl"
)

type weylCheckCase struct {
	what string
	c    [][]int
	word []int
	want api.Errno
}

func weylCheckCases() []weylCheckCase {
	one, three := writtenOf("A1").square, writtenOf("B3").square
	long := slices.Repeat([]int{0}, api.MaxLetters)
	open := [][]int{{2, -2}, {-2, 2}}
	return []weylCheckCase{
		{"no word", three, nil, api.OK},
		{"an empty word", three, []int{}, api.OK},
		{"all letters", three, []int{0, 1, 2}, api.OK},
		{"the most letters", one, long, api.OK},
		{"a letter too many", one, append(slices.Clone(long), 0), api.ErrLimit},
		{"below 0", three, []int{-1}, api.ErrPlace},
		{"as many as there are roots", three, []int{3}, api.ErrPlace},
		{"one root, the letter 1", one, []int{1}, api.ErrPlace},
		{"the last letter", three, []int{0, 1, 2, 3}, api.ErrPlace},
		{"the greatest int", three, []int{math.MaxInt}, api.ErrPlace},
		{"the least int", three, []int{0, math.MinInt, 1}, api.ErrPlace},
		{"too many letters ahead of what they are", three, slices.Repeat([]int{7}, 41), api.ErrLimit},
		{"no roots", nil, nil, api.ErrDim},
		{"the roots' dimension ahead of too many letters", nil, slices.Repeat([]int{0}, 41), api.ErrDim},
		{"the roots' dimension ahead of letters", nil, []int{0}, api.ErrDim},
		{"the roots' form ahead of letters", [][]int{{2, 0}, {-1, 2}}, []int{9}, api.ErrForm},
		{"the roots' value ahead of letters", [][]int{{2, 1}, {-1, 2}}, []int{9}, api.ErrValue},
		{"no end ahead of letters", open, []int{9}, api.ErrOpen},
		{"no end ahead of too many letters", open, slices.Repeat([]int{0}, 41), api.ErrOpen},
		{"no end", open, []int{0, 1}, api.ErrOpen},
	}
}

// G1: all calls with words say first what Check says.
func TestWeylCheck(t *testing.T) {
	for _, c := range weylCheckCases() {
		if got := weyl.Check(c.c, c.word); got != c.want {
			t.Errorf("%s: weyl.Check(%v, %v) = %d, want %d", c.what, c.c, c.word, got, c.want)
		}
		short, e := weyl.Reduce(c.c, c.word)
		ends, f := weyl.Ends(c.c, c.word)
		if e != c.want || f != c.want || e != api.OK && len(short)+len(ends) > 0 {
			t.Errorf("%s: %v, %v: Reduce %v, %d, Ends %v, %d, want %d", c.what, c.c, c.word, short, e, ends, f, c.want)
		}
		for _, order := range [][2][]int{{c.word, nil}, {nil, c.word}, {c.word, c.word}} {
			same, e := weyl.Same(c.c, order[0], order[1])
			below, f := weyl.Below(c.c, order[0], order[1])
			if e != c.want || f != c.want || e != api.OK && (same || below) {
				t.Errorf("%s: %v, %v: Same %v, %d, Below %v, %d, want %d", c.what, c.c, order, same, e, below, f, c.want)
			}
		}
	}
}

// G1: of a, then of b.
func TestWeylFirstWordsErrorFirst(t *testing.T) {
	c := writtenOf("A2").square
	long, wrong := slices.Repeat([]int{0}, 41), []int{2}
	for _, of := range []struct {
		a, b []int
		want api.Errno
	}{{long, wrong, api.ErrLimit}, {wrong, long, api.ErrPlace}} {
		same, e := weyl.Same(c, of.a, of.b)
		below, f := weyl.Below(c, of.a, of.b)
		if e != of.want || f != of.want || same || below {
			t.Errorf("%v, %v: %d, %d, want %d", of.a, of.b, e, f, of.want)
		}
	}
}

// G3: what root.Check says.
func TestWeylGroupErrors(t *testing.T) {
	for _, c := range rootCheckCases() {
		lengths, e := weyl.Lengths(c.c)
		degrees, f := weyl.Degrees(c.c)
		longest, g := weyl.Longest(c.c)
		if e != c.want || f != c.want || g != c.want {
			t.Errorf("%s: %v: %d, %d, %d, want %d", c.what, c.c, e, f, g, c.want)
		}
		if isNone := len(lengths)+len(degrees)+len(longest) == 0; isNone != (c.want != api.OK) {
			t.Errorf("%s: %v: %v, %v, %v", c.what, c.c, lengths, degrees, longest)
		}
	}
}
