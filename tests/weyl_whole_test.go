package tests

import (
	"slices"
	"testing"

	"facet/api"
	"facet/plane"
	"facet/root"
	"facet/weyl"
)

// The whole, point 6: words of the same turn have one shortest form.
func TestWordsOfOneTurnHaveOneShortestForm(t *testing.T) {
	d := die(331)
	for _, c := range someRoots(332) {
		for range 12 {
			a, b := drawnWord(&d, c, 6), drawnWord(&d, c, 6)
			x, e := weyl.Reduce(c, a)
			y, f := weyl.Reduce(c, b)
			same, g := weyl.Same(c, a, b)
			if e+f+g != api.OK || same != slices.Equal(x, y) {
				t.Errorf("%v: %v is %v, %v is %v, but the same: %v", c, a, x, b, y, same)
			}
			if isSame, _ := weyl.Same(c, a, x); !isSame || len(x) > len(a) {
				t.Errorf("%v: %v is not %v", c, a, x)
			}
			if again, _ := weyl.Reduce(c, x); !slices.Equal(again, x) {
				t.Errorf("%v: %v is %v, and that is %v", c, a, x, again)
			}
		}
	}
}

// madeBelow is how many roots above 0 a word takes below.
func madeBelow(c [][]int, word []int) int {
	roots, _ := root.Positive(c)
	below := 0
	for _, b := range roots {
		for _, letter := range slices.Backward(word) {
			b = overBy(c, b, letter)
		}
		if slices.Min(b) < 0 {
			below++
		}
	}
	return below
}

// G1, G2: a shortest word has as many letters as it takes roots above 0 below; and a
// letter put behind it makes it longer or shorter by one.
func TestWeylLengthIsRootsBelow(t *testing.T) {
	d := die(333)
	for _, c := range someRoots(334) {
		for range 8 {
			word := drawnWord(&d, c, api.MaxLetters-1)
			short, _ := weyl.Reduce(c, word)
			if len(short) != madeBelow(c, word) {
				t.Errorf("%v: %v is %v, but takes %d roots below", c, word, short, madeBelow(c, word))
			}
			ends, _ := weyl.Ends(c, word)
			for letter := range c {
				next, e := weyl.Reduce(c, append(slices.Clone(word), letter))
				want := len(short) + 1
				if slices.Contains(ends, letter) {
					want = len(short) - 1
				}
				if e != api.OK || len(next) != want {
					t.Errorf("%v: %v ends %v, but with %d it is %v", c, word, ends, letter, next)
				}
			}
		}
	}
}

// G1: two letters in turn do the same, either first, if they are as many as the pair asks.
func TestWeylTwoLettersInTurn(t *testing.T) {
	many := map[int]int{0: 2, 1: 3, 2: 4, 3: 6}
	for _, c := range someRoots(335) {
		for i := range c {
			for j := range i {
				var a, b []int
				for k := range many[c[i][j]*c[j][i]] {
					a, b = append(a, []int{i, j}[k%2]), append(b, []int{j, i}[k%2])
				}
				if same, e := weyl.Same(c, a, b); e != api.OK || !same {
					t.Errorf("%v: %v and %v are not the same, %d", c, a, b, e)
				}
				if same, _ := weyl.Same(c, a[1:], b[1:]); same {
					t.Errorf("%v: %v and %v are the same", c, a[1:], b[1:])
				}
			}
		}
	}
}

// G3: degrees and lengths tell how many roots and turns there are, and read the same both ways.
func TestWeylDegreesAddUp(t *testing.T) {
	for _, c := range someRoots(336) {
		roots, _ := root.Positive(c)
		degrees, e := weyl.Degrees(c)
		lengths, f := weyl.Lengths(c)
		longest, g := weyl.Longest(c)
		sum, product, all := 0, 1, 0
		for _, d := range degrees {
			sum, product = sum+d-1, product*d
		}
		for _, many := range lengths {
			all += many
		}
		if e+f+g != api.OK || len(degrees) != len(c) || degrees[0] < 2 || !slices.IsSorted(degrees) {
			t.Fatalf("%v: %v, %v, %v", c, degrees, lengths, longest)
		}
		if sum != len(roots) || len(lengths) != sum+1 || len(longest) != sum || all != product {
			t.Errorf("%v: %d roots, %v, %v, %v", c, len(roots), degrees, lengths, longest)
		}
		back := slices.Clone(lengths)
		if slices.Reverse(back); !slices.Equal(back, lengths) || lengths[0] != 1 {
			t.Errorf("%v: %v", c, lengths)
		}
		for h := range sum + 2 {
			above, ofHeight := 0, 0
			for _, d := range degrees {
				if d > h {
					above++
				}
			}
			for _, b := range roots {
				if heightOf(b) == h {
					ofHeight++
				}
			}
			if h > 0 && above != ofHeight {
				t.Errorf("%v: %d of %v are above %d, %d roots are of that height", c, above, degrees, h, ofHeight)
			}
		}
	}
}

// G3: the longest ends with all letters, undoes itself, and all are below it.
func TestWeylLongestIsAboveAll(t *testing.T) {
	d := die(337)
	for _, c := range someRoots(338) {
		longest, _ := weyl.Longest(c)
		if ends, _ := weyl.Ends(c, longest); len(ends) != len(c) {
			t.Errorf("%v: %v ends with %v", c, longest, ends)
		}
		if len(longest) <= 20 {
			if short, _ := weyl.Reduce(c, slices.Concat(longest, longest)); len(short) > 0 {
				t.Errorf("%v: %v twice is %v", c, longest, short)
			}
		}
		for range 6 {
			word := drawnWord(&d, c, api.MaxLetters)
			short, _ := weyl.Reduce(c, word)
			below, e := weyl.Below(c, word, longest)
			above, f := weyl.Below(c, longest, word)
			if e+f != api.OK || !below || above != (len(short) == len(longest)) {
				t.Errorf("%v: %v and %v: %v, %v", c, word, longest, below, above)
			}
		}
	}
}

// G2: below is an order: of two that are below each other both are the same, and what is
// below what is below is below; what words undo lie as they do.
func TestWeylBelowIsAnOrder(t *testing.T) {
	d := die(339)
	for _, name := range []string{"A2", "B2", "A3", "C3", "D4", "A1+B2"} {
		c := writtenSquare(name)
		var words [][]int
		for range 14 {
			words = append(words, drawnWord(&d, c, 9))
		}
		isBelow := func(a, b []int) bool {
			below, e := weyl.Below(c, a, b)
			if e != api.OK {
				t.Fatalf("%s: %v, %v: %d", name, a, b, e)
			}
			return below
		}
		undone := func(word []int) []int {
			back := slices.Clone(word)
			slices.Reverse(back)
			return back
		}
		for _, x := range words {
			for _, y := range words {
				same, _ := weyl.Same(c, x, y)
				if same != (isBelow(x, y) && isBelow(y, x)) {
					t.Errorf("%s: %v, %v: the same %v", name, x, y, same)
				}
				if isBelow(x, y) != isBelow(undone(x), undone(y)) {
					t.Errorf("%s: %v, %v, undone it is otherwise", name, x, y)
				}
				for _, z := range words {
					if isBelow(x, y) && isBelow(y, z) && !isBelow(x, z) {
						t.Errorf("%s: %v, %v, %v", name, x, y, z)
					}
				}
			}
		}
	}
}

// The whole, points 5 and 6: the planes across all roots part space as often as there are
// turns, and their polynomial has all degrees less 1 as its roots.
func TestRootsPlanesPartAsTurns(t *testing.T) {
	for _, name := range []string{"A1", "A2", "B2", "G2", "A3", "A1+A1", "A1+A1+A1", "A1+A2", "A2+A1", "A1+B2"} {
		c := writtenSquare(name)
		roots, _ := root.Positive(c)
		var planes [][]int
		for _, b := range roots { // a weight w is across b just if the sum of b[i] l[i] w[i] is 0
			lengths, _ := root.Lengths(c)
			row := make([]int, len(c)+1)
			for i := range b {
				row[i] = b[i] * lengths[i]
			}
			planes = append(planes, row)
		}
		regions, e := plane.Regions(len(c), planes)
		poly, f := plane.Poly(len(c), planes)
		degrees, _ := weyl.Degrees(c)
		product := 1
		for _, d := range degrees {
			product *= d
			if at(poly, d-1) != 0 {
				t.Errorf("%s: %v at %d is not 0", name, poly, d-1)
			}
		}
		if e+f != api.OK || len(regions) != product {
			t.Errorf("%s: %d regions, %d turns", name, len(regions), product)
		}
	}
}
