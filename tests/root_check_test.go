package tests

import (
	"math"
	"slices"
	"testing"

	"facet/api"
	"facet/root"
)

type rootCheckCase struct {
	what string
	c    [][]int
	want api.Errno
}

func rootCheckCases() []rootCheckCase {
	own := func(rank int) [][]int { return beside(slices.Repeat([][][]int{{{2}}}, rank)...) }
	return []rootCheckCase{
		{"nil", nil, api.ErrDim},
		{"no row", [][]int{}, api.ErrDim},
		{"one row", own(1), api.OK},
		{"the most rows", own(4), api.OK},
		{"a row too many", own(5), api.ErrDim},
		{"the number of rows ahead of the form", repeat([]int{1}, 5), api.ErrDim},
		{"the number of rows ahead of the value", beside(own(4), [][]int{{9}}), api.ErrDim},
		{"five rows without an end", beside(own(3), [][]int{{2, -3}, {-3, 2}}), api.ErrDim},

		{"a row that is nil", [][]int{nil}, api.ErrForm},
		{"a row too short", [][]int{{2, 0}, {0}}, api.ErrForm},
		{"a row too long", [][]int{{2, 0, 0}, {0, 2}}, api.ErrForm},
		{"all rows too long", [][]int{{2, 0, 0}, {0, 2, 0}}, api.ErrForm},
		{"all rows too short", [][]int{{2, 0}, {0, 2}, {0, 0}}, api.ErrForm},
		{"1 in an own place", [][]int{{1}}, api.ErrForm},
		{"3 in an own place", [][]int{{2, 0}, {0, 3}}, api.ErrForm},
		{"-2 in an own place", [][]int{{-2}}, api.ErrForm},
		{"0 in the last own place", [][]int{{2, 0, 0}, {0, 2, 0}, {0, 0, 0}}, api.ErrForm},
		{"the least int in an own place", [][]int{{math.MinInt}}, api.ErrForm},
		{"the last row's form ahead of the first one's value", [][]int{{2, 9}, {0}}, api.ErrForm},
		{"the last own place ahead of the first row's value", [][]int{{2, 9}, {0, 1}}, api.ErrForm},

		{"1 beside", [][]int{{2, 1}, {1, 2}}, api.ErrValue},
		{"-4 beside", [][]int{{2, -4}, {-1, 2}}, api.ErrValue},
		{"-4 across", [][]int{{2, -1}, {-4, 2}}, api.ErrValue},
		{"1 across", [][]int{{2, -1}, {1, 2}}, api.ErrValue},
		{"1 in the last place", [][]int{{2, -1, 0}, {-1, 2, -1}, {0, 1, 2}}, api.ErrValue},
		{"the greatest int", [][]int{{2, math.MaxInt}, {-1, 2}}, api.ErrValue},
		{"the least int", [][]int{{2, -1}, {math.MinInt, 2}}, api.ErrValue},
		{"-3 beside", [][]int{{2, -3}, {-1, 2}}, api.OK},
		{"-3 across", [][]int{{2, -1}, {-3, 2}}, api.OK},
		{"the value ahead of the form of that number", [][]int{{2, 1}, {0, 2}}, api.ErrValue},
		{"0, but not across", [][]int{{2, 0}, {-1, 2}}, api.ErrForm},
		{"0 across", [][]int{{2, -1}, {0, 2}}, api.ErrForm},
		{"the first number's form ahead of the value across", [][]int{{2, 0}, {1, 2}}, api.ErrForm},
		{"a number's form ahead of a later one's value", [][]int{{2, 0, 5}, {-1, 2, 0}, {0, 0, 2}}, api.ErrForm},
		{"a number's value ahead of a later one's form", [][]int{{2, 5, 0}, {-1, 2, 0}, {-1, 0, 2}}, api.ErrValue},
		{"the form ahead of no end", [][]int{{2, -3, 0}, {-3, 2, 0}, {0, -1, 2}}, api.ErrForm},
		{"the value ahead of no end", [][]int{{2, -3, 0}, {-3, 2, -1}, {0, -4, 2}}, api.ErrValue},

		{"-2 and -2", [][]int{{2, -2}, {-2, 2}}, api.ErrOpen},
		{"-3 and -2", [][]int{{2, -3}, {-2, 2}}, api.ErrOpen},
		{"-3 and -3", [][]int{{2, -3}, {-3, 2}}, api.ErrOpen},
		{"three around", [][]int{{2, -1, -1}, {-1, 2, -1}, {-1, -1, 2}}, api.ErrOpen},
		{"four around", [][]int{{2, -1, 0, -1}, {-1, 2, -1, 0}, {0, -1, 2, -1}, {-1, 0, -1, 2}}, api.ErrOpen},
		{"G2 and one more", [][]int{{2, -1, 0}, {-3, 2, -1}, {0, -1, 2}}, api.ErrOpen},
		{"two unlike pairs", [][]int{{2, -2, 0}, {-1, 2, -1}, {0, -2, 2}}, api.ErrOpen},
		{"two unlike pairs, one behind the other", [][]int{{2, -2, 0}, {-1, 2, -2}, {0, -1, 2}}, api.ErrOpen},
		{"D4 with an unlike pair", [][]int{{2, -1, 0, 0}, {-1, 2, -1, -1}, {0, -1, 2, 0}, {0, -2, 0, 2}}, api.ErrOpen},
		{"all of them -3", [][]int{{2, -3, -3, -3}, {-3, 2, -3, -3}, {-3, -3, 2, -3}, {-3, -3, -3, 2}}, api.ErrOpen},
		{"a part without an end", beside(own(2), [][]int{{2, -2}, {-2, 2}}), api.ErrOpen},
		{"24 roots", writtenOf("F4").square, api.OK},
		{"12 roots of two parts", beside(writtenOf("G2").square, writtenOf("G2").square), api.OK},
	}
}

// R1: all calls say first what Check says.
func TestRootCheck(t *testing.T) {
	for _, c := range rootCheckCases() {
		m := copied(c.c)
		var answers [5]api.Errno
		answers[0] = root.Check(m)
		roots, e := root.Positive(m)
		answers[1] = e
		name, e := root.Name(m)
		answers[2] = e
		highest, e := root.Highest(m)
		answers[3] = e
		lengths, e := root.Lengths(m)
		answers[4] = e
		if c.want == api.OK {
			answers[3] = api.OK // it may have parts
		} else if len(roots) > 0 || name != "" || len(highest) > 0 || len(lengths) > 0 {
			t.Errorf("%s: %v: beside an error %v, %q, %v, %v", c.what, c.c, roots, name, highest, lengths)
		}
		if want := [5]api.Errno{c.want, c.want, c.want, c.want, c.want}; answers != want {
			t.Errorf("%s: %v: %v, want %d", c.what, c.c, answers, c.want)
		}
		if !alike(m, c.c) {
			t.Errorf("%s: %v became %v", c.what, c.c, m)
		}
	}
}

// rootCheckByWords is R1 of a square with rows that are long enough, and 2 in each own place.
func rootCheckByWords(c [][]int) api.Errno {
	for i := range c {
		for j := range c {
			if i == j {
				continue
			}
			if c[i][j] < -3 || c[i][j] > 0 {
				return api.ErrValue
			}
			if c[i][j] == 0 && c[j][i] != 0 || c[i][j] != 0 && c[j][i] == 0 {
				return api.ErrForm
			}
		}
	}
	if len(aboveByWords(c, 25)) > 24 {
		return api.ErrOpen
	}
	return api.OK
}

// R1: all squares of rank 2, whose numbers are -5 to 2; of rank 3 all of -3 to 0.
func TestRootCheckOfAll(t *testing.T) {
	check := func(c [][]int) {
		if got, want := root.Check(c), rootCheckByWords(c); got != want {
			t.Errorf("root.Check(%v) = %d, want %d", c, got, want)
		}
	}
	for number := range 64 {
		check([][]int{{2, number%8 - 5}, {number/8 - 5, 2}})
	}
	for number := range power(4, 6) {
		c := [][]int{{2, 0, 0}, {0, 2, 0}, {0, 0, 2}}
		for i := range 3 {
			for j := range 3 {
				if i != j {
					c[i][j] = -(number % 4)
					number /= 4
				}
			}
		}
		check(c)
	}
}

// R1: squares of rank 4, some of them spoilt; both with an end and without there are many.
func TestRootCheckByWords(t *testing.T) {
	d := die(301)
	times := map[api.Errno]int{}
	for range 3000 {
		c := drawnSquare(&d, 3+d.below(2))
		for range d.below(5) / 2 {
			if i, j := d.below(len(c)), d.below(len(c)); i != j {
				c[i][j] = d.below(6) - 4
			}
		}
		got, want := root.Check(c), rootCheckByWords(c)
		if got != want {
			t.Errorf("root.Check(%v) = %d, want %d", c, got, want)
		}
		times[want]++
	}
	for _, e := range []api.Errno{api.OK, api.ErrForm, api.ErrValue, api.ErrOpen} {
		if times[e] < 100 {
			t.Errorf("error %d was drawn %d times only", e, times[e])
		}
	}
}
