package tests

import (
	"cmp"
	"slices"
	"strings"
	"testing"

	"facet/api"
	"facet/root"
)

// R2
func TestRootPositive(t *testing.T) {
	for _, c := range []struct {
		name string
		want [][]int
	}{
		{"A1", [][]int{{1}}},
		{"A2", [][]int{{0, 1}, {1, 0}, {1, 1}}},
		{"B2", [][]int{{0, 1}, {1, 0}, {1, 1}, {1, 2}}},
		{"G2", [][]int{{0, 1}, {1, 0}, {1, 1}, {2, 1}, {3, 1}, {3, 2}}},
		{"A1+A1", [][]int{{0, 1}, {1, 0}}},
		{"A1+A2", [][]int{{0, 0, 1}, {0, 1, 0}, {1, 0, 0}, {0, 1, 1}}},
		{"C3", [][]int{{0, 0, 1}, {0, 1, 0}, {1, 0, 0}, {0, 1, 1}, {1, 1, 0}, {0, 2, 1}, {1, 1, 1}, {1, 2, 1}, {2, 2, 1}}},
	} {
		if got, e := root.Positive(writtenSquare(c.name)); e != api.OK || !alike(got, c.want) {
			t.Errorf("root.Positive of %s = %v, %d, want %v", c.name, got, e, c.want)
		}
	}
}

// heightOf a sum of roots.
func heightOf(b []int) int {
	sum := 0
	for _, v := range b {
		sum += v
	}
	return sum
}

// R2
func TestRootPositiveByWords(t *testing.T) {
	for _, c := range someRoots(302) {
		want := aboveByWords(c, 100)
		slices.SortFunc(want, func(a, b []int) int {
			return cmp.Or(cmp.Compare(heightOf(a), heightOf(b)), slices.Compare(a, b))
		})
		if got, e := root.Positive(c); e != api.OK || !alike(got, want) {
			t.Errorf("root.Positive(%v) = %v, %d, want %v", c, got, e, want)
		}
	}
}

// R2
func TestRootKindsWritten(t *testing.T) {
	for _, k := range writtenKinds() {
		roots, e := root.Positive(k.square)
		if e != api.OK || len(roots) != k.roots {
			t.Errorf("%s: %d roots, %d, want %d", k.name, len(roots), e, k.roots)
		}
		if got, e := root.Highest(k.square); e != api.OK || !slices.Equal(got, k.highest) {
			t.Errorf("%s: highest %v, %d, want %v", k.name, got, e, k.highest)
		}
		if got, e := root.Lengths(k.square); e != api.OK || !slices.Equal(got, k.lengths) {
			t.Errorf("%s: lengths %v, %d, want %v", k.name, got, e, k.lengths)
		}
	}
}

// rootParts grows each root's part by neighbours, as often as there are roots.
func rootParts(c [][]int) [][]int {
	var out [][]int
	for i := range c {
		part := []int{i}
		for range c {
			for j := range c {
				hangs := func(k int) bool { return c[k][j] != 0 }
				if slices.ContainsFunc(part, hangs) && !slices.Contains(part, j) {
					part = append(part, j)
				}
			}
		}
		slices.Sort(part)
		if part[0] == i {
			out = append(out, part)
		}
	}
	return out
}

// R2: the highest, in whatever order the roots stand, is above all others; there is none
// of several parts.
func TestRootHighest(t *testing.T) {
	for _, c := range someRoots(303) {
		got, e := root.Highest(c)
		if len(rootParts(c)) > 1 {
			if e != api.ErrForm || len(got) > 0 {
				t.Errorf("root.Highest(%v) = %v, %d: it has parts", c, got, e)
			}
			continue
		}
		roots, _ := root.Positive(c)
		isThere := false
		for _, b := range roots {
			isThere = isThere || slices.Equal(b, got)
			for i := range b {
				if e != api.OK || b[i] > got[i] {
					t.Fatalf("root.Highest(%v) = %v, %d, not above %v", c, got, e, b)
				}
			}
		}
		if !isThere {
			t.Errorf("root.Highest(%v) = %v is no root", c, got)
		}
	}
}

// R2
func TestRootLengths(t *testing.T) {
	for _, c := range someRoots(304) {
		lengths, e := root.Lengths(c)
		if e != api.OK || len(lengths) != len(c) {
			t.Fatalf("root.Lengths(%v) = %v, %d", c, lengths, e)
		}
		for i := range c {
			for j := range c {
				if c[i][j]*lengths[j] != c[j][i]*lengths[i] {
					t.Errorf("root.Lengths(%v) = %v: %d and %d", c, lengths, i, j)
				}
			}
		}
		for _, part := range rootParts(c) {
			least := lengths[part[0]]
			for _, i := range part {
				least = min(least, lengths[i])
			}
			if least != 1 {
				t.Errorf("root.Lengths(%v) = %v: the least of %v is %d", c, lengths, part, least)
			}
		}
	}
}

// R2: the document's example.
func TestRootLengthsOfParts(t *testing.T) {
	if got, e := root.Lengths(writtenSquare("B2+A1")); e != api.OK || !slices.Equal(got, []int{2, 1, 1}) {
		t.Errorf("root.Lengths of B2+A1 = %v, %d", got, e)
	}
	if got, e := root.Lengths(writtenSquare("G2+B2")); e != api.OK || !slices.Equal(got, []int{1, 3, 2, 1}) {
		t.Errorf("root.Lengths of G2+B2 = %v, %d", got, e)
	}
}

// nameByWords holds each part, in each order, against all written kinds.
func nameByWords(c [][]int) string {
	var names []string
	for _, part := range rootParts(c) {
		for _, order := range ordersOf(len(part)) {
			var picked []int
			for _, i := range order {
				picked = append(picked, part[i])
			}
			square := repeat(make([]int, len(part)), len(part))
			for i, of := range picked {
				for k, by := range picked {
					square[i][k] = c[of][by]
				}
			}
			is := slices.IndexFunc(writtenKinds(), func(k writtenKind) bool { return alike(k.square, square) })
			if is >= 0 {
				names = append(names, writtenKinds()[is].name)
				break
			}
		}
	}
	slices.Sort(names)
	return strings.Join(names, "+")
}

// R3: of each name, the pieces in whatever order, in all orders of the simple roots.
func TestRootNameOfAllOrders(t *testing.T) {
	for _, name := range allNames() {
		pieces := strings.Split(name, "+")
		slices.Sort(pieces)
		want := strings.Join(pieces, "+")
		for _, order := range ordersOf(len(writtenSquare(name))) {
			c := put(writtenSquare(name), order)
			if got, e := root.Name(c); e != api.OK || got != want {
				t.Errorf("root.Name(%v) = %q, %d, want %q", c, got, e, want)
			}
		}
	}
}

// R3, and the whole, point 6: roots are of few kinds: whatever has an end has a name.
func TestRootNameByWords(t *testing.T) {
	d := die(305)
	seen := map[string]int{}
	for range 6000 {
		c := drawnSquare(&d, 1+d.below(4))
		got, e := root.Name(c)
		if rootCheckByWords(c) != api.OK {
			if e != api.ErrOpen || got != "" {
				t.Errorf("root.Name(%v) = %q, %d", c, got, e)
			}
			continue
		}
		if want := nameByWords(c); e != api.OK || got != want {
			t.Errorf("root.Name(%v) = %q, %d, want %q", c, got, e, want)
		}
		if len(strings.Split(got, "+")) != len(rootParts(c)) {
			t.Errorf("root.Name(%v) = %q: a part has no name", c, got)
		}
		seen[got]++
	}
	for _, k := range writtenKinds() {
		if seen[k.name] == 0 && k.name != "G2" {
			t.Errorf("%s was never drawn", k.name)
		}
	}
}

// The whole, point 6: all of rank 1 to 3 that has an end is of one of these kinds.
func TestRootKindsAreFew(t *testing.T) {
	names := map[string]int{}
	for number := range power(4, 6) {
		c := [][]int{{2, 0, 0}, {0, 2, 0}, {0, 0, 2}}
		for i := range 3 {
			for j := range 3 {
				if i != j {
					c[i][j] = -(number % 4)
					number /= 4
				}
			}
		}
		if name, e := root.Name(c); e == api.OK {
			names[name]++
		}
	}
	// of each name in how many ways three roots stand so
	want := map[string]int{"A1+A1+A1": 1, "A1+A2": 3, "A1+B2": 6, "A1+G2": 6, "A3": 3, "B3": 6, "C3": 6}
	for name, many := range names {
		if want[name] != many {
			t.Errorf("%q is there %d times, want %d", name, many, want[name])
		}
	}
	if len(names) != len(want) {
		t.Errorf("%v, want %v", names, want)
	}
}

// R2: a root is turned over into a root, above 0 or, of a simple one by itself, below.
func TestRootsTurnIntoRoots(t *testing.T) {
	for _, c := range someRoots(306) {
		roots, _ := root.Positive(c)
		for _, b := range roots {
			for j := range c {
				over := overBy(c, b, j)
				isSimple := heightOf(b) == 1 && b[j] == 1
				isThere := slices.ContainsFunc(roots, func(other []int) bool { return slices.Equal(other, over) })
				if isThere == isSimple {
					t.Errorf("%v: %v by %d is %v", c, b, j, over)
				}
			}
		}
	}
}

// Z2
func TestRootLists(t *testing.T) {
	was := writtenOf("B3").square
	c := roomyLists(was)
	roots, e := root.Positive(c)
	highest, _ := root.Highest(c)
	lengths, _ := root.Lengths(c)
	rootsAgain, _ := root.Positive(c)
	highestAgain, _ := root.Highest(c)
	lengthsAgain, _ := root.Lengths(c)
	name, _ := root.Name(c)
	if e != api.OK || name != "B3" || !untouchedLists(c, was) {
		t.Errorf("%v: %q, %d", c, name, e)
	}
	if !alike(roots, rootsAgain) || !slices.Equal(highest, highestAgain) || !slices.Equal(lengths, lengthsAgain) {
		t.Error("it was another one the second time")
	}
	if !apart(roots, rootsAgain, c) || !apart(slices.Concat(roots, rootsAgain, c, [][]int{highest, lengths, highestAgain, lengthsAgain})...) {
		t.Error("lists share memory")
	}
}
