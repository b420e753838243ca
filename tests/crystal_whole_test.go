package tests

import (
	"fmt"
	"slices"
	"strconv"
	"testing"

	"facet/api"
	"facet/crystal"
	"facet/weight"
)

// lineOf is the square of the n simple roots that stand in a line.
func lineOf(n int) [][]int { return writtenSquare("A" + strconv.Itoa(n)) }

// The whole, point 6: words turn as weights do: down takes a simple root from the mark, up
// gives it back, and they undo each other.
func TestWordsTurnAsWeights(t *testing.T) {
	d := die(441)
	for range 800 {
		n := 1 + d.below(3)
		w, i := drawnLetters(&d, n, d.below(9)), d.below(n)
		mark, _ := crystal.Mark(n, w)
		if low, ok, _ := crystal.Down(n, w, i); ok {
			lower, _ := crystal.Mark(n, low)
			back, isBack, _ := crystal.Up(n, low, i)
			if !slices.Equal(lower, less(mark, lineOf(n)[i])) || !isBack || !slices.Equal(back, w) {
				t.Errorf("%d, %v, %d: %v, marks %v, %v, back %v", n, w, i, low, mark, lower, back)
			}
		}
		if high, ok, _ := crystal.Up(n, w, i); ok {
			back, isBack, _ := crystal.Down(n, high, i)
			if !isBack || !slices.Equal(back, w) {
				t.Errorf("%d, %v, %d: %v, back %v", n, w, i, high, back)
			}
		}
		// it goes down as much more often than up as the mark says
		downs, ups := 0, 0
		for low, ok, _ := crystal.Down(n, w, i); ok; low, ok, _ = crystal.Down(n, low, i) {
			downs++
		}
		for high, ok, _ := crystal.Up(n, w, i); ok; high, ok, _ = crystal.Up(n, high, i) {
			ups++
		}
		if downs-ups != mark[i] {
			t.Errorf("%d, %v: %d times down by %d, %d up, mark %v", n, w, downs, i, ups, mark)
		}
	}
}

// The whole, point 6: what comes of a word has each mark as often as it belongs to the
// mark of the highest; all have the same highest.
func TestWordsAreAsManyAsWeights(t *testing.T) {
	d := die(442)
	for range 300 {
		n := 1 + d.below(3)
		w := drawnLetters(&d, n, d.below(9))
		high, _ := crystal.High(n, w)
		top, _ := crystal.Mark(n, high)
		if exceeds(top, api.MaxMark) {
			continue
		}
		size, e := weight.Size(lineOf(n), top)
		all, f := crystal.All(n, w)
		if size > api.MaxPart {
			if f != api.ErrLimit {
				t.Errorf("%d, %v: size %d, %d", n, w, size, f)
			}
			continue
		}
		if e+f != api.OK || len(all) != size {
			t.Errorf("%d, %v: %d words, %d, size %d", n, w, len(all), f, size)
		}
		many := map[string]int{}
		for _, one := range all {
			mark, _ := crystal.Mark(n, one)
			many[fmt.Sprint(mark)]++
			if other, _ := crystal.High(n, one); !slices.Equal(other, high) {
				t.Errorf("%d: %v is %v at the highest, %v is %v", n, w, high, one, other)
			}
		}
		marks, _ := weight.Marks(lineOf(n), top)
		for _, of := range marks {
			if many[fmt.Sprint(of.Mark)] != of.Many {
				t.Errorf("%d, %v: mark %v is there %d times, want %d", n, w, of.Mark, many[fmt.Sprint(of.Mark)], of.Many)
			}
		}
		if len(many) != len(marks) {
			t.Errorf("%d, %v: %v, want %v", n, w, many, marks)
		}
	}
}

// The whole, point 6: the highest of a word and one more letter have the marks that stand
// at the tops of both at once.
func TestWordsGoTogetherAsWeights(t *testing.T) {
	d := die(443)
	for range 60 {
		n := 1 + d.below(3)
		w := drawnLetters(&d, n, d.below(6))
		high, _ := crystal.High(n, w)
		top, _ := crystal.Mark(n, high)
		all, e := crystal.All(n, w)
		if e != api.OK {
			t.Fatalf("crystal.All(%d, %v): %d", n, w, e)
		}
		letter, _ := crystal.Mark(n, []int{0})
		got := map[string]int{}
		for _, one := range all {
			for last := range n + 1 {
				longer := append(slices.Clone(one), last)
				if highest, _ := crystal.High(n, longer); slices.Equal(highest, longer) {
					mark, _ := crystal.Mark(n, longer)
					got[fmt.Sprint(mark)]++
				}
			}
		}
		tops, f := weight.Together(lineOf(n), top, letter)
		for _, of := range tops {
			if got[fmt.Sprint(of.Mark)] != of.Many {
				t.Errorf("%d, %v: %v, want %v", n, w, got, tops)
			}
		}
		if f != api.OK || len(got) != len(tops) {
			t.Errorf("%d, %v: %v, want %v, %d", n, w, got, tops, f)
		}
	}
}
