package tests

import (
	"math"
	"slices"
	"testing"

	"facet/api"
	"facet/half"
	"facet/lp"
)

const mostMuch = 1_000_000_000

// added is so much of the rows, number by number, b with them; false, if a number or a row may not be so told.
func added(c api.Cut, w api.Taken) ([]int, bool) {
	sum := make([]int, c.Dim+1)
	ok := len(w.Points) == len(w.Much) && w.Under >= 1 && w.Under <= mostMuch
	for i, r := range w.Points {
		if !ok || r < 0 || r >= len(c.Rows) || i > 0 && r <= w.Points[i-1] || w.Much[i] < 0 || w.Much[i] > mostMuch {
			return sum, false
		}
		for k := range sum {
			sum[k] += w.Much[i] * c.Rows[r][k]
		}
	}
	return sum, ok
}

// shown: does w add up to goal and over by under, as F2 asks?
func shown(c api.Cut, goal []int, over, under int, w api.Taken) bool {
	sum, ok := added(c, w)
	for i, v := range goal {
		ok = ok && sum[i] == w.Under*v
	}
	return ok && sum[c.Dim]*under == w.Under*over
}

// refuted: does w add up to what can't be, as F3 asks?
func refuted(c api.Cut, w api.Taken) bool {
	sum, ok := added(c, w)
	return ok && w.Under == 1 && slices.Equal(sum[:c.Dim], make([]int, c.Dim)) && sum[c.Dim] < 0
}

// The helpers themselves: each thing that may not be is seen.
func TestShownAndRefuted(t *testing.T) {
	c, goal := cutOf(2, []int{1, 0, 3}, []int{0, 1, 2}, []int{-1, 0, -4}), []int{1, 1}
	if !shown(c, goal, 5, 1, api.Taken{Points: []int{0, 1}, Much: []int{2, 2}, Under: 2}) {
		t.Error("it adds up")
	}
	for _, w := range []api.Taken{
		{},
		{Points: []int{0, 1}, Much: []int{1, 1}},
		{Points: []int{0, 1}, Much: []int{1, 1}, Under: 2},
		{Points: []int{0, 1}, Much: []int{1}, Under: 1},
		{Points: []int{1, 0}, Much: []int{1, 1}, Under: 1},
		{Points: []int{0, 0, 1}, Much: []int{1, 0, 1}, Under: 1},
		{Points: []int{0, 1, 3}, Much: []int{1, 1, 0}, Under: 1},
		{Points: []int{-1, 0, 1}, Much: []int{0, 1, 1}, Under: 1},
		{Points: []int{0, 1}, Much: []int{1 - mostMuch, 1}, Under: 1},
		{Points: []int{0, 1}, Much: []int{2 * mostMuch, 2 * mostMuch}, Under: 2 * mostMuch},
	} {
		if shown(c, goal, 5, 1, w) {
			t.Errorf("%v adds up", w)
		}
	}
	if shown(c, goal, 6, 1, api.Taken{Points: []int{0, 1}, Much: []int{1, 1}, Under: 1}) {
		t.Error("it is 5, not 6")
	}
	if !refuted(c, api.Taken{Points: []int{0, 2}, Much: []int{2, 2}, Under: 1}) ||
		refuted(c, api.Taken{Points: []int{0, 2}, Much: []int{2, 2}, Under: 2}) ||
		refuted(c, api.Taken{Points: []int{0, 2}, Much: []int{2, 1}, Under: 1}) ||
		refuted(c, api.Taken{Under: 1}) {
		t.Error("2 and 2 of rows 0 and 2 by 1 it is, and nothing else")
	}
}

type bestCase struct {
	what        string
	c           api.Cut
	goal        []int
	over, under int
	e           api.Errno
}

func bestCases() []bestCase {
	rectangle := cutOf(2, []int{1, 0, 3}, []int{0, 1, 2}, []int{-1, 0, 0}, []int{0, -1, 0})
	return []bestCase{
		{"the example", rectangle, []int{1, 1}, 5, 1, api.OK},
		{"the example of Shows", cutOf(2, rectangle.Rows[:3]...), []int{1, 1}, 5, 1, api.OK},
		{"the other way", rectangle, []int{-1, -1}, 0, 1, api.OK},
		{"one direction, an edge", rectangle, []int{0, -7}, 0, 1, api.OK},
		{"below 0", cutOf(1, []int{1, -3}), []int{2}, -6, 1, api.OK},
		{"a quotient", cutOf(1, []int{3, 5}, []int{-1, 0}), []int{1}, 5, 3, api.OK},
		{"a quotient below 0", cutOf(1, []int{3, -5}), []int{1}, -5, 3, api.OK},
		{"lowered", cutOf(1, []int{6, 10}), []int{3}, 5, 1, api.OK},
		{"lowered to a quotient", cutOf(1, []int{6, 10}), []int{4}, 20, 3, api.OK},
		{"lowered, 0 by 1", cutOf(1, []int{6, 0}), []int{4}, 0, 1, api.OK},
		{"the least of several rows", cutOf(1, []int{1, 4}, []int{3, 11}, []int{2, 7}, []int{-1, 0}), []int{1}, 7, 2, api.OK},
		{"a goal of 0", rectangle, []int{0, 0}, 0, 1, api.OK},
		{"a goal of 0 where there is no row", cutOf(4), []int{0, 0, 0, 0}, 0, 1, api.OK},
		{"a goal of 0 away from 0", cutOf(1, []int{-1, -5}), []int{0}, 0, 1, api.OK},
		{"a goal of 0, empty", cutOf(1, []int{0, -1}), []int{0}, 0, 0, api.ErrNone},
		{"no row", cutOf(1), []int{1}, 0, 0, api.ErrOpen},
		{"no end that way", cutOf(1, []int{1, 3}), []int{-1}, 0, 0, api.ErrOpen},
		{"an end that way, but none elsewhere", cutOf(2, []int{1, 2, 3}), []int{2, 4}, 6, 1, api.OK},
		{"a line that is next to an end", cutOf(2, []int{1, 2, 3}), []int{2, 5}, 0, 0, api.ErrOpen},
		{"a cone", cutOf(2, []int{1, 1, 0}, []int{1, -1, 0}), []int{1, 0}, 0, 1, api.OK},
		{"the edge of a cone", cutOf(2, []int{1, 1, 0}, []int{1, -1, 0}), []int{1, 1}, 0, 1, api.OK},
		{"beyond the edge of a cone", cutOf(2, []int{1, 1, 0}, []int{1, -1, 0}), []int{1, 2}, 0, 0, api.ErrOpen},
		{"empty, and no end to be seen", cutOf(2, []int{1, 0, 0}, []int{-1, 0, -1}), []int{0, 1}, 0, 0, api.ErrNone},
		{"one place", cutOf(1, []int{2, 3}, []int{-2, -3}), []int{20}, 30, 1, api.OK},
		{"one place of the plane", cutOf(2, []int{3, 0, 1}, []int{-3, 0, -1}, []int{0, 7, 2}, []int{0, -7, -2}), []int{1, 1}, 13, 21, api.OK},
		{"flat", cutOf(2, []int{1, 1, 1}, []int{-1, -1, -1}, []int{-1, 0, 0}, []int{0, -1, 0}), []int{3, 5}, 5, 1, api.OK},
		{"a row whose a is 0 says nothing", cutOf(1, []int{0, 0}, []int{0, 5}, []int{1, 2}), []int{1}, 2, 1, api.OK},
		{"rows twice", cutOf(1, []int{1, 2}, []int{1, 2}, []int{2, 4}), []int{1}, 2, 1, api.OK},
		{"four dimensions", box(4, 20, 19), []int{20, -20, 20, -20}, 40*19 + 40*20, 1, api.OK},
		{"four dimensions, a simplex", cutOf(4, []int{-1, 0, 0, 0, 0}, []int{0, -1, 0, 0, 0}, []int{0, 0, -1, 0, 0}, []int{0, 0, 0, -1, 0}, []int{20, 19, 18, 17, 3}),
			[]int{1, 1, 1, 1}, 3, 17, api.OK},
	}
}

// F1, F2
func TestLpBestAndShows(t *testing.T) {
	for _, c := range bestCases() {
		over, under, e := lp.Best(c.c, c.goal)
		if over != c.over || under != c.under || e != c.e {
			t.Errorf("%s: Best = %d by %d, %d, want %d by %d, %d", c.what, over, under, e, c.over, c.under, c.e)
		}
		w, e := lp.Shows(c.c, c.goal)
		if e != c.e || e != api.OK && !isNothing(w) || e == api.OK && !shown(c.c, c.goal, c.over, c.under, w) {
			t.Errorf("%s: Shows = %v, %d", c.what, w, e)
		}
	}
}

// F1, F2: each error of the goal, which is told first, and the numbers next to each bound.
func TestLpGoalErrors(t *testing.T) {
	const most = api.MaxCut
	open, none := cutOf(2), cutOf(2, []int{0, 0, -1})
	for _, c := range []struct {
		c    api.Cut
		goal []int
		want api.Errno
	}{
		{box(2, 1, 1), []int{most, -most}, api.OK},
		{box(2, 1, 1), []int{-most, most}, api.OK},
		{box(2, 1, 1), nil, api.ErrForm},
		{box(2, 1, 1), []int{1}, api.ErrForm},
		{box(2, 1, 1), []int{1, 1, 1}, api.ErrForm},
		{box(2, 1, 1), []int{most + 1, 0, 0}, api.ErrForm},
		{box(2, 1, 1), []int{most + 1, 0}, api.ErrValue},
		{box(2, 1, 1), []int{0, -most - 1}, api.ErrValue},
		{box(2, 1, 1), []int{0, math.MaxInt}, api.ErrValue},
		{box(2, 1, 1), []int{math.MinInt, 0}, api.ErrValue},
		{none, []int{1}, api.ErrForm},
		{none, []int{1, most + 1}, api.ErrValue},
		{none, []int{1, most}, api.ErrNone},
		{open, []int{1}, api.ErrForm},
		{open, []int{1, most + 1}, api.ErrValue},
		{open, []int{1, most}, api.ErrOpen},
	} {
		if over, under, e := lp.Best(c.c, c.goal); e != c.want || e != api.OK && (over != 0 || under != 0) {
			t.Errorf("lp.Best(%v, %v) = %d, %d, %d, want error %d", c.c, c.goal, over, under, e, c.want)
		}
		if w, e := lp.Shows(c.c, c.goal); e != c.want || e != api.OK && !isNothing(w) {
			t.Errorf("lp.Shows(%v, %v) = %v, %d, want error %d", c.c, c.goal, w, e, c.want)
		}
	}
}

// F3: of all cuts of the tests of half, too.
func TestLpFarkas(t *testing.T) {
	cases := cutCases()
	for _, c := range []api.Cut{
		cutOf(1, []int{2, 1}, []int{-1, -3}),
		cutOf(1, []int{20, 19}, []int{-19, -19}),
		cutOf(1, []int{5, 7}, []int{0, -1}, []int{-5, 7}),
		cutOf(2, []int{20, 19, 0}, []int{-19, -18, 0}, []int{-20, 20, -1}, []int{20, -20, 0}),
		cutOf(4, []int{1, 2, 3, 4, -5}, []int{-2, -4, -6, -8, 9}),
		cutOf(4, repeat([]int{0, 0, 0, 0, -20}, api.MaxRows)...),
	} {
		cases = append(cases, cutCase{what: "one that is empty", c: c, e: api.ErrNone})
	}
	for _, c := range cases {
		w, e := lp.Farkas(c.c)
		if c.e == api.ErrNone && (e != api.OK || !refuted(c.c, w)) {
			t.Errorf("%s: lp.Farkas(%v) = %v, %d", c.what, c.c, w, e)
		}
		if c.e != api.ErrNone && (e != api.ErrForm || !isNothing(w)) {
			t.Errorf("%s: lp.Farkas(%v) = %v, %d, but it is not empty", c.what, c.c, w, e)
		}
	}
}

// Z2: nothing is written into, nothing behind it is read, nothing is shared.
func TestLpListsStayAsTheyAre(t *testing.T) {
	rows := [][]int{{2, 1, 9}, {1, 2, 9}, {2, 1, 9}, {-1, 0, 0}, {0, 0, 0}, {0, -1, 0}}
	c := api.Cut{Dim: 2, Rows: roomyLists(rows)}
	none := api.Cut{Dim: 2, Rows: roomyLists(append(copied(rows), []int{-1, -1, -20}))}
	goal := roomy([]int{1, 1})
	inner := slices.Concat(c.Rows, none.Rows, [][]int{goal})
	for range 2 {
		if over, under, e := lp.Best(c, goal); over != 6 || under != 1 || e != api.OK {
			t.Errorf("Best = %d, %d, %d", over, under, e)
		}
		a, e := lp.Shows(c, goal)
		b, f := lp.Farkas(none)
		if e != api.OK || f != api.OK || len(a.Points) < 2 || len(b.Points) < 2 {
			t.Errorf("%v, %d; %v, %d", a, e, b, f)
		}
		inner = append(inner, a.Points, a.Much, b.Points, b.Much)
	}
	if !untouchedLists(c.Rows, rows) || !untouchedLists(none.Rows, append(copied(rows), []int{-1, -1, -20})) || !untouched(goal, []int{1, 1}) {
		t.Error("what was handed in is not as it was")
	}
	if !apart(inner...) || !apart(c.Rows, none.Rows) {
		t.Error("two lists share memory")
	}
}

// greatCut has as many rows as may be, of numbers near the bound; 0 is in it, if it is told to be.
func greatCut(d *die, hasNought bool) api.Cut {
	c := cutOf(4, d.lists(api.MaxRows, 5, api.MaxCut)...)
	for _, row := range c.Rows {
		for i := range row {
			if d.below(3) > 0 {
				row[i] = (api.MaxCut - d.below(3)) * (1 - 2*d.below(2))
			}
		}
		if hasNought {
			row[4] = max(row[4], -row[4])
		}
	}
	return c
}

// F2, F3: numbers stay within their bounds where rows are as many and as great as may be.
func TestLpGreatNumbers(t *testing.T) {
	d := die(31)
	empty, best := 0, 0
	for round := range 80 {
		c, goal := greatCut(&d, round%2 == 0), d.list(4, api.MaxCut)
		w, e := lp.Farkas(c)
		none, _ := half.Empty(c)
		if none != (e == api.OK) || none && (round%2 == 0 || !refuted(c, w)) {
			t.Errorf("lp.Farkas(%v) = %v, %d", c, w, e)
		}
		over, under, e := lp.Best(c, goal)
		w, f := lp.Shows(c, goal)
		if e != f || e == api.OK && !shown(c, goal, over, under, w) || none != (e == api.ErrNone) {
			t.Errorf("lp.Best(%v, %v) = %d by %d, %d, but %v, %d", c, goal, over, under, e, w, f)
		}
		if none {
			empty++
		} else if e == api.OK {
			best++
		}
	}
	if empty < 10 || best < 10 {
		t.Errorf("%d are empty, %d have a greatest value", empty, best)
	}
}
