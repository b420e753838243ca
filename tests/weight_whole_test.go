package tests

import (
	"fmt"
	"slices"
	"testing"

	"facet/api"
	"facet/root"
	"facet/weight"
)

// The whole, point 6: weights are there as often by either way of counting; and they are
// as many in all as Size says.
func TestWeightsAreThereAsOftenEitherWay(t *testing.T) {
	d := die(421)
	for _, c := range smallRoots(422) {
		for range 2 {
			top := drawnTop(&d, c, 400)
			marks, e := weight.Marks(c, top)
			size, f := weight.Size(c, top)
			all := 0
			for _, w := range marks {
				all += w.Many
				if exceeds(w.Mark, 12) {
					continue
				}
				if got, g := weight.Often(c, top, w.Mark); g != api.OK || got != w.Many {
					t.Errorf("%v, %v: %v is there %d times, %d, or %d", c, top, w.Mark, got, g, w.Many)
				}
			}
			if e+f != api.OK || all != size {
				t.Errorf("%v, %v: %d weights, size %d", c, top, all, size)
			}
		}
	}
}

// exceeds: has it a number beyond most?
func exceeds(l []int, most int) bool {
	return slices.Max(l) > most || slices.Min(l) < -most
}

// kostantByWords is the sum over all turns, each a word, of the ways from what the turn
// makes of top, all 1 higher, to w.
func kostantByWords(c [][]int, top, w []int) int {
	ones := slices.Repeat([]int{1}, len(c))
	type turn struct {
		w    []int
		sign int
	}
	all := []turn{{less(top, timesOf(ones, -1)), 1}}
	above := aboveByWords(c, 100)
	many := 0
	for next := 0; next < len(all); next++ {
		of := all[next]
		// what is left between the turn's weight, 1 lower, and w: tried sum by sum
		gap := less(less(of.w, ones), w)
		for _, s := range allTops(len(c), 12) {
			if slices.Equal(ofSum(c, s), gap) {
				many += of.sign * waysByWords(above, s)
			}
		}
		for i := range c {
			over := less(of.w, timesOf(c[i], of.w[i]))
			if !slices.ContainsFunc(all, func(x turn) bool { return slices.Equal(x.w, over) }) {
				all = append(all, turn{over, -of.sign})
			}
		}
	}
	return many
}

// W2, W3: small weights, by Kostant's sum, all of it written out.
func TestWeightOftenByTurns(t *testing.T) {
	for _, of := range []struct {
		name string
		top  []int
	}{{"A1", []int{4}}, {"A2", []int{2, 1}}, {"B2", []int{1, 1}}, {"G2", []int{0, 1}}, {"A1+A1", []int{2, 1}}, {"A3", []int{1, 0, 1}}, {"C3", []int{0, 1, 0}}} {
		c := writtenSquare(of.name)
		marks, _ := weight.Marks(c, of.top)
		for _, w := range marks {
			if got, e := weight.Often(c, of.top, w.Mark); e != api.OK || got != w.Many || got != kostantByWords(c, of.top, w.Mark) {
				t.Errorf("%s, %v: %v is there %d times, or %d, or %d", of.name, of.top, w.Mark, got, w.Many, kostantByWords(c, of.top, w.Mark))
			}
		}
	}
}

// characterOf has what belongs to some tops, by mark.
func characterOf(t *testing.T, c [][]int, tops []api.Weighed) map[string]int {
	t.Helper()
	out := map[string]int{}
	for _, top := range tops {
		marks, e := weight.Marks(c, top.Mark)
		if e != api.OK {
			t.Fatalf("weight.Marks(%v, %v): %d", c, top.Mark, e)
		}
		for _, w := range marks {
			out[fmt.Sprint(w.Mark)] += top.Many * w.Many
		}
	}
	return out
}

// The whole, point 6: weights go together as they are many: what belongs to the tops is
// each of what belongs to a with each of what belongs to b; and either may be first.
func TestWeightsGoTogether(t *testing.T) {
	d := die(423)
	for _, c := range smallRoots(424) {
		for range 3 {
			a, b := drawnTop(&d, c, 20), drawnTop(&d, c, 20)
			if exceeds(less(a, timesOf(b, -1)), api.MaxMark) {
				continue
			}
			tops, e := weight.Together(c, a, b)
			other, f := weight.Together(c, b, a)
			if e+f != api.OK || !sameWeighed(tops, other) {
				t.Errorf("%v, %v and %v: %v, but %v", c, a, b, tops, other)
			}
			ofA, _ := weight.Marks(c, a)
			ofB, _ := weight.Marks(c, b)
			want := map[string]int{}
			for _, x := range ofA {
				for _, y := range ofB {
					want[fmt.Sprint(less(x.Mark, timesOf(y.Mark, -1)))] += x.Many * y.Many
				}
			}
			got := characterOf(t, c, tops)
			for w := range want {
				if got[w] != want[w] {
					t.Errorf("%v, %v and %v: %s is there %d times, want %d", c, a, b, w, got[w], want[w])
				}
			}
			if len(got) != len(want) {
				t.Errorf("%v, %v and %v: %v, want %v", c, a, b, got, want)
			}
		}
	}
}

// W4: sizes are a product, also where what stands at the tops may not be asked itself.
func TestWeightTogetherSizes(t *testing.T) {
	d := die(425)
	for _, c := range smallRoots(426) {
		for range 4 {
			a, b := drawnTop(&d, c, 400), drawnTop(&d, c, 400)
			tops, e := weight.Together(c, a, b)
			all := 0
			for _, top := range tops {
				if all += top.Many * sizeByWords(c, top.Mark); top.Many < 1 || slices.Min(top.Mark) < 0 {
					t.Errorf("%v, %v and %v: %v", c, a, b, top)
				}
			}
			if e != api.OK || all != sizeByWords(c, a)*sizeByWords(c, b) {
				t.Errorf("%v, %v and %v: %d in all", c, a, b, all)
			}
		}
	}
}

// W2: a turn leaves weights as many as they are; and the roots belong to the highest one.
func TestWeightMarksTurn(t *testing.T) {
	d := die(427)
	for _, c := range smallRoots(428) {
		top := drawnTop(&d, c, 400)
		marks, _ := weight.Marks(c, top)
		many := map[string]int{}
		for _, w := range marks {
			many[fmt.Sprint(w.Mark)] = w.Many
		}
		for _, w := range marks {
			for i := range c {
				over := less(w.Mark, timesOf(c[i], w.Mark[i]))
				if many[fmt.Sprint(over)] != w.Many {
					t.Errorf("%v, %v: %v is there %d times, %v %d times", c, top, w.Mark, w.Many, over, many[fmt.Sprint(over)])
				}
			}
		}
		highest, e := root.Highest(c)
		if e != api.OK {
			continue
		}
		roots, _ := root.Positive(c)
		marks, e = weight.Marks(c, ofSum(c, highest))
		if e != api.OK || len(marks) != 2*len(roots)+1 {
			t.Errorf("%v: %v, %d, %d roots", c, marks, e, len(roots))
		}
		for _, w := range marks {
			want := 1
			if !exceeds(w.Mark, 0) {
				want = len(c)
			}
			if w.Many != want {
				t.Errorf("%v: %v is there %d times, want %d", c, w.Mark, w.Many, want)
			}
		}
	}
}
