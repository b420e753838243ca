package tests

import (
	"fmt"
	"math"
	"slices"
	"testing"

	"facet/api"
	"facet/crystal"
)

// I1: all calls say first what Check says.
func TestCrystalCheck(t *testing.T) {
	for _, of := range []struct {
		what string
		n    int
		w    []int
		want api.Errno
	}{
		{"no letters", 1, nil, api.OK},
		{"one letter", 1, []int{1}, api.OK},
		{"all letters", 3, []int{3, 2, 1, 0}, api.OK},
		{"the longest word", 2, []int{0, 1, 2, 0, 1, 2, 0, 1}, api.OK},
		{"n is 0", 0, []int{0}, api.ErrDim},
		{"n is 4", 4, []int{0}, api.ErrDim},
		{"n is below 0", -1, nil, api.ErrDim},
		{"the least int", math.MinInt, nil, api.ErrDim},
		{"the greatest int", math.MaxInt, nil, api.ErrDim},
		{"n ahead of the length", 4, make([]int, 9), api.ErrDim},
		{"n ahead of the letters", 0, []int{7}, api.ErrDim},
		{"too long", 1, make([]int, 9), api.ErrLimit},
		{"the length ahead of the letters", 3, []int{4, 0, 0, 0, 0, 0, 0, 0, 0}, api.ErrLimit},
		{"a letter above n", 1, []int{0, 2}, api.ErrValue},
		{"a letter above 3", 3, []int{4}, api.ErrValue},
		{"a letter below 0", 3, []int{0, -1}, api.ErrValue},
		{"a letter far below", 3, []int{math.MinInt}, api.ErrValue},
		{"a letter far above", 3, []int{0, 0, math.MaxInt}, api.ErrValue},
	} {
		for _, i := range []int{0, -1, 5} {
			w := slices.Clone(of.w)
			var answers [6]api.Errno
			answers[0] = crystal.Check(of.n, w)
			low, isLow, e := crystal.Down(of.n, w, i)
			answers[1] = e
			high, isHigh, e := crystal.Up(of.n, w, i)
			answers[2] = e
			mark, e := crystal.Mark(of.n, w)
			answers[3] = e
			top, e := crystal.High(of.n, w)
			answers[4] = e
			all, e := crystal.All(of.n, w)
			answers[5] = e
			want := [6]api.Errno{of.want, of.want, of.want, of.want, of.want, of.want}
			if of.want == api.OK && i != 0 {
				want[1], want[2] = api.ErrPlace, api.ErrPlace
			}
			if answers != want {
				t.Errorf("%s: %d, %v, %d: %v, want %v", of.what, of.n, of.w, i, answers, want)
			}
			if want[1] != api.OK && (len(low) > 0 || isLow || len(high) > 0 || isHigh) {
				t.Errorf("%s: %d, %v, %d: beside an error %v, %v, %v, %v", of.what, of.n, of.w, i, low, isLow, high, isHigh)
			}
			if of.want != api.OK && (len(mark) > 0 || len(top) > 0 || len(all) > 0) {
				t.Errorf("%s: %d, %v: beside an error %v, %v, %v", of.what, of.n, of.w, mark, top, all)
			}
			if !slices.Equal(w, of.w) {
				t.Errorf("%s: %v became %v", of.what, of.w, w)
			}
		}
	}
}

// I2: there are just the places 0 to n - 1.
func TestCrystalPlaces(t *testing.T) {
	for n := 1; n <= 3; n++ {
		for i := -2; i < 6; i++ {
			want := api.OK
			if i < 0 || i >= n {
				want = api.ErrPlace
			}
			_, _, e := crystal.Down(n, []int{0, 1}, i)
			_, _, f := crystal.Up(n, []int{0, 1}, i)
			if e != want || f != want {
				t.Errorf("%d, place %d: %d, %d, want %d", n, i, e, f, want)
			}
		}
	}
}

// I1
func TestCrystalMark(t *testing.T) {
	for _, of := range []struct {
		n       int
		w, want []int
	}{
		{1, nil, []int{0}},
		{3, nil, []int{0, 0, 0}},
		{1, []int{0, 0, 1}, []int{1}},
		{1, []int{1}, []int{-1}},
		{2, []int{0, 1, 0, 2}, []int{1, 0}},
		{2, []int{0, 1, 2, 0}, []int{1, 0}},
		{3, []int{3, 3, 2, 0}, []int{1, -1, -1}},
		{3, []int{1, 1, 1, 1, 1, 1, 1, 1}, []int{-8, 8, 0}},
	} {
		if got, e := crystal.Mark(of.n, of.w); e != api.OK || !slices.Equal(got, of.want) {
			t.Errorf("crystal.Mark(%d, %v) = %v, %d, want %v", of.n, of.w, got, e, of.want)
		}
	}
}

// I2: the document's example, and others.
func TestCrystalDownUp(t *testing.T) {
	for _, of := range []struct {
		n          int
		w          []int
		i          int
		down, high []int // nil: there is none
	}{
		{2, []int{0, 1, 0, 2}, 0, []int{0, 1, 1, 2}, nil},
		{2, []int{0, 1, 0, 2}, 1, nil, nil},
		{2, []int{0, 2, 0, 1}, 1, []int{0, 2, 0, 2}, []int{0, 1, 0, 1}},
		{1, []int{0}, 0, []int{1}, nil},
		{1, []int{1}, 0, nil, []int{0}},
		{1, []int{0, 1}, 0, nil, nil},
		{1, []int{1, 0}, 0, []int{1, 1}, []int{0, 0}},
		{1, []int{0, 0}, 0, []int{1, 0}, nil},
		{1, []int{1, 1}, 0, nil, []int{1, 0}},
		{1, []int{0, 0, 1}, 0, []int{1, 0, 1}, nil},
		{1, []int{0, 1, 1}, 0, nil, []int{0, 1, 0}},
		{1, []int{0, 1, 1, 0, 0}, 0, []int{0, 1, 1, 1, 0}, []int{0, 1, 0, 0, 0}},
		{1, []int{0, 0, 1, 1, 1, 1, 0, 0}, 0, []int{0, 0, 1, 1, 1, 1, 1, 0}, []int{0, 0, 1, 1, 1, 0, 0, 0}},
		{3, []int{3, 2, 1, 0}, 0, []int{3, 2, 1, 1}, []int{3, 2, 0, 0}},
		{3, []int{3, 2, 1, 0}, 1, []int{3, 2, 2, 0}, []int{3, 1, 1, 0}},
		{3, []int{3, 2, 1, 0}, 2, []int{3, 3, 1, 0}, []int{2, 2, 1, 0}},
		{3, []int{0, 3, 0, 3}, 1, nil, nil},
		{2, nil, 0, nil, nil},
	} {
		low, isLow, e := crystal.Down(of.n, of.w, of.i)
		if e != api.OK || isLow != (of.down != nil) || !slices.Equal(low, of.down) {
			t.Errorf("crystal.Down(%d, %v, %d) = %v, %v, %d, want %v", of.n, of.w, of.i, low, isLow, e, of.down)
		}
		high, isHigh, e := crystal.Up(of.n, of.w, of.i)
		if e != api.OK || isHigh != (of.high != nil) || !slices.Equal(high, of.high) {
			t.Errorf("crystal.Up(%d, %v, %d) = %v, %v, %d, want %v", of.n, of.w, of.i, high, isHigh, e, of.high)
		}
	}
}

// freeByWords: which letters are free? Each i + 1, from the front on, looks back for an i.
func freeByWords(w []int, i int) []bool {
	isTaken := make([]bool, len(w))
	for place, letter := range w {
		if letter != i+1 {
			continue
		}
		for back := place - 1; back >= 0; back-- {
			if w[back] == i && !isTaken[back] {
				isTaken[back], isTaken[place] = true, true
				break
			}
		}
	}
	isFree := make([]bool, len(w))
	for place, letter := range w {
		isFree[place] = !isTaken[place] && (letter == i || letter == i+1)
	}
	return isFree
}

func downByWords(w []int, i int) ([]int, bool) {
	for place, isFree := range freeByWords(w, i) {
		if isFree && w[place] == i {
			out := slices.Clone(w)
			out[place] = i + 1
			return out, true
		}
	}
	return nil, false
}

func upByWords(w []int, i int) ([]int, bool) {
	isFree := freeByWords(w, i)
	for place := len(w) - 1; place >= 0; place-- {
		if isFree[place] && w[place] == i+1 {
			out := slices.Clone(w)
			out[place] = i
			return out, true
		}
	}
	return nil, false
}

// I2: all words of three letters up to a length of 6, and drawn ones.
func TestCrystalDownUpByWords(t *testing.T) {
	check := func(n int, w []int) {
		for i := range n {
			low, isLow, e := crystal.Down(n, w, i)
			wantLow, wantIs := downByWords(w, i)
			if e != api.OK || isLow != wantIs || !slices.Equal(low, wantLow) {
				t.Errorf("crystal.Down(%d, %v, %d) = %v, %v, %d, want %v", n, w, i, low, isLow, e, wantLow)
			}
			high, isHigh, e := crystal.Up(n, w, i)
			wantHigh, wantIs := upByWords(w, i)
			if e != api.OK || isHigh != wantIs || !slices.Equal(high, wantHigh) {
				t.Errorf("crystal.Up(%d, %v, %d) = %v, %v, %d, want %v", n, w, i, high, isHigh, e, wantHigh)
			}
		}
	}
	for length := range 7 {
		for _, w := range allTops(length, 2) {
			check(2, w)
		}
	}
	d := die(431)
	for range 2000 {
		n := 1 + d.below(3)
		check(n, drawnLetters(&d, n, d.below(9)))
	}
}

// drawnLetters is a word of letters 0 to n.
func drawnLetters(d *die, n, length int) []int {
	w := make([]int, length)
	for i := range w {
		w[i] = d.below(n + 1)
	}
	return w
}

func highByWords(n int, w []int) []int {
	for i := range n {
		if high, ok := upByWords(w, i); ok {
			return highByWords(n, high)
		}
	}
	return w
}

// allByWords goes on with each word that is new; so many are enough.
func allByWords(n int, w []int, enough int) [][]int {
	all := [][]int{w}
	seen := map[string]bool{fmt.Sprint(w): true}
	for next := 0; next < len(all) && len(all) < enough; next++ {
		for i := range n {
			for _, by := range []func([]int, int) ([]int, bool){downByWords, upByWords} {
				if near, ok := by(all[next], i); ok && !seen[fmt.Sprint(near)] {
					seen[fmt.Sprint(near)] = true
					all = append(all, near)
				}
			}
		}
	}
	slices.SortFunc(all, slices.Compare[[]int])
	return all
}

// I3
func TestCrystalHigh(t *testing.T) {
	for _, of := range []struct {
		n       int
		w, want []int
	}{
		{1, nil, nil},
		{1, []int{1}, []int{0}},
		{1, []int{0, 1}, []int{0, 1}},
		{2, []int{0, 1, 2, 0}, []int{0, 1, 2, 0}},
		{2, []int{2, 1, 0}, []int{0, 0, 0}},
		{2, []int{1, 2}, []int{0, 1}},
		{3, []int{3, 3, 3, 3, 3, 3, 3, 3}, []int{0, 0, 0, 0, 0, 0, 0, 0}},
		{3, []int{3, 1, 2}, []int{0, 0, 1}},
	} {
		if got, e := crystal.High(of.n, of.w); e != api.OK || !slices.Equal(got, of.want) {
			t.Errorf("crystal.High(%d, %v) = %v, %d, want %v", of.n, of.w, got, e, of.want)
		}
	}
}

// I3
func TestCrystalAll(t *testing.T) {
	for _, of := range []struct {
		n    int
		w    []int
		want [][]int
	}{
		{1, nil, [][]int{{}}},
		{1, []int{0}, [][]int{{0}, {1}}},
		{3, []int{2}, [][]int{{0}, {1}, {2}, {3}}},
		{1, []int{0, 1}, [][]int{{0, 1}}},
		{1, []int{1, 0}, [][]int{{0, 0}, {1, 0}, {1, 1}}},
		{2, []int{0, 2}, [][]int{{0, 1}, {0, 2}, {1, 2}}},
		{2, []int{0, 1, 2}, [][]int{{0, 1, 2}}},
	} {
		if got, e := crystal.All(of.n, of.w); e != api.OK || !alike(got, of.want) {
			t.Errorf("crystal.All(%d, %v) = %v, %d, want %v", of.n, of.w, got, e, of.want)
		}
	}
}

// I3: a word has at most 359 others: none is long enough for more than MaxPart.
func TestCrystalHighAllByWords(t *testing.T) {
	most := 0
	check := func(n int, w []int) {
		if got, e := crystal.High(n, w); e != api.OK || !slices.Equal(got, highByWords(n, w)) {
			t.Errorf("crystal.High(%d, %v) = %v, %d, want %v", n, w, got, e, highByWords(n, w))
		}
		want := allByWords(n, w, 500)
		if got, e := crystal.All(n, w); e != api.OK || !alike(got, want) {
			t.Errorf("crystal.All(%d, %v) = %v, %d, want %v", n, w, got, e, want)
		}
		most = max(most, len(want))
	}
	check(3, []int{0, 0, 0, 0, 0, 1, 0, 1})
	d := die(432)
	for range 1500 {
		n := 1 + d.below(3)
		check(n, drawnLetters(&d, n, d.below(9)))
	}
	if most != 360 {
		t.Errorf("the most are %d", most)
	}
}

// Z2
func TestCrystalLists(t *testing.T) {
	was := []int{1, 0, 2, 1, 0}
	w := roomy(was)
	low, isLow, _ := crystal.Down(2, w, 0)
	high, isHigh, _ := crystal.Up(2, w, 0)
	mark, _ := crystal.Mark(2, w)
	top, _ := crystal.High(2, w)
	ofTop, _ := crystal.High(2, top)
	all, _ := crystal.All(2, w)
	again, e := crystal.All(2, w)
	if e != api.OK || !isLow || !isHigh || !untouched(w, was) || !alike(all, again) {
		t.Errorf("%v: %v, %v, %v, %v", w, isLow, isHigh, all, again)
	}
	lists := slices.Concat(all, again, [][]int{w, low, high, mark, top, ofTop})
	if !apart(lists...) || !apart(all, again) {
		t.Error("lists share memory")
	}
}
