package tests

import (
	"math/big"
	"slices"
	"testing"

	"facet/api"
	"facet/weight"
)

// W1: sizes that are well known.
func TestWeightSize(t *testing.T) {
	for _, of := range []struct {
		name string
		top  []int
		want int
	}{
		{"A1", []int{0}, 1},
		{"A1", []int{6}, 7},
		{"A2", []int{1, 1}, 8},
		{"A2", []int{3, 0}, 10},
		{"A2", []int{2, 1}, 15},
		{"B2", []int{1, 0}, 5},
		{"B2", []int{0, 1}, 4},
		{"B2", []int{0, 2}, 10},
		{"G2", []int{1, 0}, 7},
		{"G2", []int{0, 1}, 14},
		{"G2", []int{2, 0}, 27},
		{"A3", []int{0, 1, 0}, 6},
		{"A3", []int{1, 0, 1}, 15},
		{"B3", []int{1, 0, 0}, 7},
		{"B3", []int{0, 1, 0}, 21},
		{"B3", []int{0, 0, 1}, 8},
		{"C3", []int{1, 0, 0}, 6},
		{"C3", []int{0, 1, 0}, 14},
		{"C3", []int{0, 0, 1}, 14},
		{"C3", []int{2, 0, 0}, 21},
		{"A1+A1", []int{1, 2}, 6},
		{"A1+B2", []int{2, 0, 1}, 12},
	} {
		if got, e := weight.Size(writtenSquare(of.name), of.top); e != api.OK || got != of.want {
			t.Errorf("weight.Size of %s, %v = %d, %d, want %d", of.name, of.top, got, e, of.want)
		}
	}
}

// sizeByWords is Weyl's product, a fraction at a time.
func sizeByWords(c [][]int, top []int) int {
	ones := slices.Repeat([]int{1}, len(c))
	size := big.NewRat(1, 1)
	for _, b := range aboveByWords(c, 100) {
		over, under := productOf(c, less(top, timesOf(ones, -1)), b), productOf(c, ones, b)
		size.Mul(size, big.NewRat(int64(over), int64(under)))
	}
	if !size.IsInt() {
		panic(size.String())
	}
	return int(size.Num().Int64())
}

// W1
func TestWeightSizeByWords(t *testing.T) {
	d := die(401)
	for _, c := range smallRoots(402) {
		tops := [][]int{make([]int, len(c)), slices.Repeat([]int{api.MaxMark}, len(c))}
		for range 6 {
			top := make([]int, len(c))
			for i := range top {
				top[i] = d.below(api.MaxMark + 1)
			}
			tops = append(tops, top)
		}
		for _, top := range tops {
			if got, e := weight.Size(c, top); e != api.OK || got != sizeByWords(c, top) {
				t.Errorf("weight.Size(%v, %v) = %d, %d, want %d", c, top, got, e, sizeByWords(c, top))
			}
		}
	}
}

// W2: the document's example, and others.
func TestWeightMarks(t *testing.T) {
	for _, of := range []struct {
		name string
		top  []int
		want [][]int
	}{
		{"A1", []int{0}, [][]int{{0, 1}}},
		{"A1", []int{3}, [][]int{{-3, 1}, {-1, 1}, {1, 1}, {3, 1}}},
		{"A2", []int{1, 1}, [][]int{{-2, 1, 1}, {-1, -1, 1}, {-1, 2, 1}, {0, 0, 2}, {1, -2, 1}, {1, 1, 1}, {2, -1, 1}}},
		{"B2", []int{0, 1}, [][]int{{-1, 1, 1}, {0, -1, 1}, {0, 1, 1}, {1, -1, 1}}},
		{"G2", []int{1, 0}, [][]int{{-2, 1, 1}, {-1, 0, 1}, {-1, 1, 1}, {0, 0, 1}, {1, -1, 1}, {1, 0, 1}, {2, -1, 1}}},
		{"A1+A1", []int{1, 2}, [][]int{{-1, -2, 1}, {-1, 0, 1}, {-1, 2, 1}, {1, -2, 1}, {1, 0, 1}, {1, 2, 1}}},
		{"B3", []int{0, 0, 0}, [][]int{{0, 0, 0, 1}}},
	} {
		if got, e := weight.Marks(writtenSquare(of.name), of.top); e != api.OK || !sameWeighed(got, weighedOf(of.want)) {
			t.Errorf("weight.Marks of %s, %v = %v, %d, want %v", of.name, of.top, got, e, of.want)
		}
	}
}

// W2: weights of 0s and 1s, and drawn ones.
func TestWeightMarksByWords(t *testing.T) {
	d := die(403)
	for _, c := range smallRoots(404) {
		tops := [][]int{drawnTop(&d, c, 400), drawnTop(&d, c, 400)}
		for _, top := range allTops(len(c), 1) {
			if size, _ := weight.Size(c, top); size <= 100 {
				tops = append(tops, top)
			}
		}
		for _, top := range tops {
			if got, e := weight.Marks(c, top); e != api.OK || !sameWeighed(got, marksByWords(c, top)) {
				t.Errorf("weight.Marks(%v, %v) = %v, %d, want %v", c, top, got, e, marksByWords(c, top))
			}
		}
	}
}

// waysByWords takes the first root each number of times, and goes on with the others.
func waysByWords(above [][]int, b []int) int {
	if slices.Min(b) < 0 {
		return 0
	}
	if len(above) == 0 {
		if slices.Max(b) == 0 {
			return 1
		}
		return 0
	}
	all := 0
	for rest := b; slices.Min(rest) >= 0; rest = less(rest, above[0]) {
		all += waysByWords(above[1:], rest)
	}
	return all
}

// W3
func TestWeightWays(t *testing.T) {
	for _, of := range []struct {
		name string
		b    []int
		want int
	}{
		{"A2", []int{2, 2}, 3},
		{"A2", []int{0, 0}, 1},
		{"A2", []int{12, 12}, 13},
		{"A2", []int{-1, 2}, 0},
		{"A2", []int{2, -1}, 0},
		{"A2", []int{-1, -1}, 0},
		{"A2", []int{-12, -12}, 0},
		{"A1", []int{12}, 1},
		{"A1", []int{-12}, 0},
		{"A1+A1", []int{3, 5}, 1},
		{"B2", []int{1, 2}, 3},
		{"G2", []int{3, 2}, 7},
		{"A3", []int{1, 1, 1}, 4},
		{"A4", []int{1, 1, 1, 1}, 8},
		{"A4", []int{0, 0, 0, 0}, 1},
		{"F4", []int{12, 12, 12, -1}, 0},
	} {
		if got, e := weight.Ways(writtenSquare(of.name), of.b); e != api.OK || got != of.want {
			t.Errorf("weight.Ways of %s, %v = %d, %d, want %d", of.name, of.b, got, e, of.want)
		}
	}
}

// W3
func TestWeightWaysByWords(t *testing.T) {
	d := die(405)
	for _, c := range someRoots(406) {
		above := aboveByWords(c, 100)
		for range 6 {
			b := make([]int, len(c))
			for i := range b {
				b[i] = d.below(6) - d.below(8)/7
			}
			if got, e := weight.Ways(c, b); e != api.OK || got != waysByWords(above, b) {
				t.Errorf("weight.Ways(%v, %v) = %d, %d, want %d", c, b, got, e, waysByWords(above, b))
			}
		}
	}
	for _, c := range smallRoots(407) {
		above := aboveByWords(c, 100)
		for range 2 {
			b := make([]int, len(c))
			for i := range b {
				b[i] = d.below(13)
			}
			if got, e := weight.Ways(c, b); e != api.OK || got != waysByWords(above, b) {
				t.Errorf("weight.Ways(%v, %v) = %d, %d, want %d", c, b, got, e, waysByWords(above, b))
			}
		}
	}
}

// W3
func TestWeightOften(t *testing.T) {
	for _, of := range []struct {
		name   string
		top, w []int
		want   int
	}{
		{"A2", []int{1, 1}, []int{0, 0}, 2},
		{"A2", []int{1, 1}, []int{1, 1}, 1},
		{"A2", []int{1, 1}, []int{-1, -1}, 1},
		{"A2", []int{1, 1}, []int{1, 0}, 0},   // less no sum of whole numbers
		{"A2", []int{1, 1}, []int{3, 0}, 0},   // above
		{"A2", []int{1, 1}, []int{-3, 0}, 0},  // too far below
		{"A2", []int{1, 1}, []int{12, 12}, 0}, // far above
		{"A2", []int{1, 1}, []int{-12, -12}, 0},
		{"A2", []int{6, 6}, []int{0, 0}, 7},
		{"A2", []int{6, 6}, []int{-12, 6}, 1},
		{"G2", []int{0, 1}, []int{0, 0}, 2},
		{"B3", []int{0, 1, 0}, []int{0, 0, 0}, 3},
		{"A1", []int{6}, []int{-6}, 1},
		{"A1", []int{6}, []int{-8}, 0},
		{"A1", []int{6}, []int{5}, 0},
		{"A1", []int{0}, []int{0}, 1},
	} {
		if got, e := weight.Often(writtenSquare(of.name), of.top, of.w); e != api.OK || got != of.want {
			t.Errorf("weight.Often of %s, %v, %v = %d, %d, want %d", of.name, of.top, of.w, got, e, of.want)
		}
	}
}

// W3
func TestWeightOftenByWords(t *testing.T) {
	d := die(408)
	for _, c := range smallRoots(409) {
		top := drawnTop(&d, c, 400)
		want := marksByWords(c, top)
		asked := [][]int{d.list(len(c), 12), d.list(len(c), 3), d.list(len(c), 3), d.list(len(c), 2)}
		for range 8 {
			if w := want[d.below(len(want))].Mark; slices.Max(w) <= 12 && slices.Min(w) >= -12 {
				asked = append(asked, w)
				beside := slices.Clone(w)
				beside[d.below(len(w))] -= 2
				if slices.Min(beside) >= -12 {
					asked = append(asked, beside)
				}
			}
		}
		for _, w := range asked {
			many := 0
			if at := slices.IndexFunc(want, func(x api.Weighed) bool { return slices.Equal(x.Mark, w) }); at >= 0 {
				many = want[at].Many
			}
			if got, e := weight.Often(c, top, w); e != api.OK || got != many {
				t.Errorf("weight.Often(%v, %v, %v) = %d, %d, want %d", c, top, w, got, e, many)
			}
		}
	}
}

// W4
func TestWeightTogether(t *testing.T) {
	for _, of := range []struct {
		name string
		a, b []int
		want [][]int
	}{
		{"A2", []int{1, 0}, []int{0, 1}, [][]int{{0, 0, 1}, {1, 1, 1}}},
		{"A2", []int{1, 1}, []int{1, 1}, [][]int{{0, 0, 1}, {0, 3, 1}, {1, 1, 2}, {2, 2, 1}, {3, 0, 1}}},
		{"A1", []int{2}, []int{5}, [][]int{{3, 1}, {5, 1}, {7, 1}}},
		{"A1", []int{5}, []int{2}, [][]int{{3, 1}, {5, 1}, {7, 1}}},
		{"A1", []int{6}, []int{6}, [][]int{{0, 1}, {2, 1}, {4, 1}, {6, 1}, {8, 1}, {10, 1}, {12, 1}}},
		{"G2", []int{1, 0}, []int{1, 0}, [][]int{{0, 0, 1}, {0, 1, 1}, {1, 0, 1}, {2, 0, 1}}},
		{"B2", []int{0, 1}, []int{0, 1}, [][]int{{0, 0, 1}, {0, 2, 1}, {1, 0, 1}}},
		{"B3", []int{0, 0, 0}, []int{0, 0, 0}, [][]int{{0, 0, 0, 1}}},
		{"B3", []int{0, 0, 1}, []int{0, 0, 0}, [][]int{{0, 0, 1, 1}}},
		{"B3", []int{0, 0, 0}, []int{0, 0, 1}, [][]int{{0, 0, 1, 1}}},
	} {
		if got, e := weight.Together(writtenSquare(of.name), of.a, of.b); e != api.OK || !sameWeighed(got, weighedOf(of.want)) {
			t.Errorf("weight.Together of %s, %v, %v = %v, %d, want %v", of.name, of.a, of.b, got, e, of.want)
		}
	}
}

// togetherByWords turns a + w + R, word for word, each w as often as it belongs.
func togetherByWords(c [][]int, a, b []int) []api.Weighed {
	var out []api.Weighed
	ones := slices.Repeat([]int{1}, len(c))
	for _, of := range marksByWords(c, b) {
		for range of.Many {
			w, sign := less(less(a, timesOf(of.Mark, -1)), timesOf(ones, -1)), 1
			for slices.Min(w) < 0 {
				i := slices.IndexFunc(w, func(v int) bool { return v < 0 })
				w, sign = less(w, timesOf(c[i], w[i])), -sign
			}
			if slices.Contains(w, 0) {
				continue
			}
			top := less(w, ones)
			at := slices.IndexFunc(out, func(x api.Weighed) bool { return slices.Equal(x.Mark, top) })
			if at < 0 {
				at, out = len(out), append(out, api.Weighed{Mark: top})
			}
			out[at].Many += sign
		}
	}
	return risingMarks(slices.DeleteFunc(out, func(x api.Weighed) bool { return x.Many == 0 }))
}

// W4
func TestWeightTogetherByWords(t *testing.T) {
	d := die(410)
	for _, c := range smallRoots(411) {
		for range 3 {
			a, b := drawnTop(&d, c, 400), drawnTop(&d, c, 100)
			if got, e := weight.Together(c, a, b); e != api.OK || !sameWeighed(got, togetherByWords(c, a, b)) {
				t.Errorf("weight.Together(%v, %v, %v) = %v, %d, want %v", c, a, b, got, e, togetherByWords(c, a, b))
			}
		}
	}
}

// Z2
func TestWeightLists(t *testing.T) {
	was, top, low := writtenOf("B3").square, []int{0, 1, 1}, []int{0, 0, 1}
	c, a, b := roomyLists(was), roomy(top), roomy(low)
	marks, e := weight.Marks(c, a)
	both, f := weight.Together(c, a, b)
	ways, _ := weight.Ways(c, a)
	often, _ := weight.Often(c, a, b)
	size, _ := weight.Size(c, a)
	marksAgain, _ := weight.Marks(c, a)
	bothAgain, _ := weight.Together(c, a, b)
	waysAgain, _ := weight.Ways(c, a)
	oftenAgain, _ := weight.Often(c, a, b)
	if e+f != api.OK || weight.Check(c, a) != api.OK || !untouchedLists(c, was) || !untouched(a, top) || !untouched(b, low) {
		t.Errorf("%v, %v, %v", c, a, b)
	}
	if !sameWeighed(marks, marksAgain) || !sameWeighed(both, bothAgain) || ways != waysAgain || often != oftenAgain || size != 112 {
		t.Errorf("it was another one the second time, %d", size)
	}
	lists := slices.Concat(c, [][]int{a, b}, marksIn(marks), marksIn(marksAgain), marksIn(both), marksIn(bothAgain))
	if !apart(lists...) || !apart(marks, marksAgain, both, bothAgain) {
		t.Error("lists share memory")
	}
}
