package tests

import (
	"fmt"
	"slices"
	"testing"

	"facet/api"
	"facet/weyl"
)

// doneTo is what a word does to each simple root, word for word: the last letter first.
func doneTo(c [][]int, word []int) string {
	var images [][]int
	for i := range c {
		b := make([]int, len(c))
		b[i] = 1
		for _, letter := range slices.Backward(word) {
			b = overBy(c, b, letter)
		}
		images = append(images, b)
	}
	return fmt.Sprint(images)
}

// turns has, of all that words do, the first shortest word: words grow letter by letter,
// those of one length in order.
func turns(c [][]int) map[string][]int {
	group := map[string][]int{doneTo(c, nil): {}}
	for words := [][]int{{}}; len(words) > 0; {
		var longer [][]int
		for _, word := range words {
			for letter := range c {
				next := append(slices.Clone(word), letter)
				if key := doneTo(c, next); group[key] == nil {
					group[key] = next
					longer = append(longer, next)
				}
			}
		}
		words = longer
	}
	return group
}

// groupNames are those of all kinds, and of some with parts.
func groupNames() []string {
	names := []string{"A1+A1", "B2+A1", "A1+A1+A1+A1", "A2+A2", "G2+B2", "A1+A3"}
	for _, k := range writtenKinds() {
		names = append(names, k.name)
	}
	return names
}

// drawnWord has up to so many letters.
func drawnWord(d *die, c [][]int, most int) []int {
	var word []int
	for range d.below(most + 1) {
		word = append(word, d.below(len(c)))
	}
	return word
}

// G1
func TestWeylReduce(t *testing.T) {
	for _, of := range []struct {
		name string
		word []int
		want []int
	}{
		{"A1", nil, nil},
		{"A1", []int{0}, []int{0}},
		{"A1", []int{0, 0}, nil},
		{"A2", []int{0, 1, 0, 1}, []int{1, 0}},
		{"A2", []int{1, 0, 1}, []int{0, 1, 0}},
		{"A2", []int{1, 0}, []int{1, 0}},
		{"A2", []int{0, 1, 0, 1, 0, 1}, nil},
		{"B2", []int{1, 0, 1, 0}, []int{0, 1, 0, 1}},
		{"B2", []int{1, 0, 1, 0, 1}, []int{0, 1, 0}},
		{"A3", []int{2, 0}, []int{0, 2}},
		{"A3", []int{2, 1, 0}, []int{2, 1, 0}},
		{"A1+A1", []int{1, 0, 1, 1}, []int{0, 1}},
	} {
		if got, e := weyl.Reduce(writtenSquare(of.name), of.word); e != api.OK || !slices.Equal(got, of.want) {
			t.Errorf("weyl.Reduce of %s, %v = %v, %d, want %v", of.name, of.word, got, e, of.want)
		}
	}
}

// G1, G2: of all that words do.
func TestWeylOfAllTurns(t *testing.T) {
	for _, name := range groupNames() {
		c := writtenSquare(name)
		group := turns(c)
		for _, word := range group {
			if got, e := weyl.Reduce(c, word); e != api.OK || !slices.Equal(got, word) {
				t.Errorf("%s: weyl.Reduce(%v) = %v, %d", name, word, got, e)
			}
			ends := []int{}
			for letter := range c {
				if len(group[doneTo(c, append(slices.Clone(word), letter))]) < len(word) {
					ends = append(ends, letter)
				}
			}
			if got, e := weyl.Ends(c, word); e != api.OK || !slices.Equal(got, ends) {
				t.Errorf("%s: weyl.Ends(%v) = %v, %d, want %v", name, word, got, e, ends)
			}
		}
	}
}

// G1, G2: of words of any length.
func TestWeylByWords(t *testing.T) {
	d := die(321)
	for _, name := range groupNames() {
		c := writtenSquare(name)
		c = put(c, shuffled(&d, len(c)))
		group := turns(c)
		sames := 0
		for range 60 {
			a, b := drawnWord(&d, c, api.MaxLetters), drawnWord(&d, c, api.MaxLetters)
			if d.below(3) == 0 {
				b = slices.Clone(group[doneTo(c, a)])
			}
			want := group[doneTo(c, a)]
			if got, e := weyl.Reduce(c, a); e != api.OK || !slices.Equal(got, want) {
				t.Errorf("weyl.Reduce(%v, %v) = %v, %d, want %v", c, a, got, e, want)
			}
			var ends []int
			for letter := range c {
				if len(group[doneTo(c, append(slices.Clone(a), letter))]) < len(want) {
					ends = append(ends, letter)
				}
			}
			if got, e := weyl.Ends(c, a); e != api.OK || !slices.Equal(got, ends) {
				t.Errorf("weyl.Ends(%v, %v) = %v, %d, want %v", c, a, got, e, ends)
			}
			same := doneTo(c, a) == doneTo(c, b)
			if got, e := weyl.Same(c, a, b); e != api.OK || got != same {
				t.Errorf("weyl.Same(%v, %v, %v) = %v, %d", c, a, b, got, e)
			}
			if same {
				sames++
			}
		}
		if sames < 5 {
			t.Errorf("%s: only %d words did the same", name, sames)
		}
	}
}

// partsOf is what the parts of a word do.
func partsOf(c [][]int, group map[string][]int, word []int) map[string]bool {
	parts := map[string]bool{doneTo(c, nil): true}
	for _, letter := range word {
		var more []string
		for key := range parts {
			more = append(more, doneTo(c, append(slices.Clone(group[key]), letter)))
		}
		for _, key := range more {
			parts[key] = true
		}
	}
	return parts
}

// G2
func TestWeylBelowByWords(t *testing.T) {
	d := die(322)
	for _, name := range groupNames() {
		c := writtenSquare(name)
		group := turns(c)
		times := [2]int{}
		for range 12 {
			b := drawnWord(&d, c, 12)
			parts := partsOf(c, group, group[doneTo(c, b)])
			for range 40 {
				a := drawnWord(&d, c, 8)
				want := parts[doneTo(c, a)]
				if got, e := weyl.Below(c, a, b); e != api.OK || got != want {
					t.Errorf("weyl.Below(%v, %v, %v) = %v, %d", c, a, b, got, e)
				}
				if want {
					times[1]++
				} else {
					times[0]++
				}
			}
		}
		if min(times[0], times[1]) < 10 {
			t.Errorf("%s: below or not: %v times", name, times)
		}
	}
}

// G2: of all pairs of small groups.
func TestWeylBelowOfAllTurns(t *testing.T) {
	for _, name := range []string{"A1", "A2", "B2", "G2", "A3", "A1+B2", "B3"} {
		c := writtenSquare(name)
		group := turns(c)
		for _, b := range group {
			parts := partsOf(c, group, b)
			for key, a := range group {
				if got, e := weyl.Below(c, a, b); e != api.OK || got != parts[key] {
					t.Errorf("%s: weyl.Below(%v, %v) = %v, %d", name, a, b, got, e)
				}
			}
		}
	}
}

// G2: the document's example, and words that are not the shortest.
func TestWeylBelow(t *testing.T) {
	c := writtenOf("A2").square
	for _, of := range []struct {
		a, b []int
		want bool
	}{
		{[]int{0}, []int{1, 0}, true},
		{[]int{1, 0}, []int{0}, false},
		{[]int{0, 1}, []int{1, 0}, false},
		{nil, nil, true},
		{nil, []int{1}, true},
		{[]int{1}, nil, false},
		{[]int{0, 0}, nil, true},
		{[]int{0}, []int{1, 1}, false},
		{[]int{1}, []int{1, 1}, false},
		{[]int{1}, []int{0, 1, 0, 0, 1, 0}, false},
		{[]int{0, 1, 0, 1}, []int{0, 1, 0}, true},
		{[]int{0, 1, 0}, []int{1, 0, 1}, true},
	} {
		if got, e := weyl.Below(c, of.a, of.b); e != api.OK || got != of.want {
			t.Errorf("weyl.Below(A2, %v, %v) = %v, %d", of.a, of.b, got, e)
		}
	}
}

// G3
func TestWeylGroupsByWords(t *testing.T) {
	for _, name := range groupNames() {
		c := writtenSquare(name)
		var many, longest []int
		for _, word := range turns(c) {
			for len(many) <= len(word) {
				many = append(many, 0)
			}
			many[len(word)]++
			if len(word) > len(longest) {
				longest = word
			}
		}
		if got, e := weyl.Lengths(c); e != api.OK || !slices.Equal(got, many) {
			t.Errorf("%s: weyl.Lengths = %v, %d, want %v", name, got, e, many)
		}
		if got, e := weyl.Longest(c); e != api.OK || !slices.Equal(got, longest) {
			t.Errorf("%s: weyl.Longest = %v, %d, want %v", name, got, e, longest)
		}
	}
}

// G3
func TestWeylLongest(t *testing.T) {
	for _, of := range []struct {
		name string
		want []int
	}{
		{"A1", []int{0}},
		{"A2", []int{0, 1, 0}},
		{"B2", []int{0, 1, 0, 1}},
		{"A3", []int{0, 1, 0, 2, 1, 0}},
		{"A1+A1", []int{0, 1}},
		{"G2", []int{0, 1, 0, 1, 0, 1}},
		{"A1+A2", []int{0, 1, 2, 1}},
	} {
		if got, e := weyl.Longest(writtenSquare(of.name)); e != api.OK || !slices.Equal(got, of.want) {
			t.Errorf("weyl.Longest of %s = %v, %d, want %v", of.name, got, e, of.want)
		}
	}
}

// G3: the degrees of parts are put together, rising.
func TestWeylDegrees(t *testing.T) {
	for _, k := range writtenKinds() {
		if got, e := weyl.Degrees(k.square); e != api.OK || !slices.Equal(got, k.degrees) {
			t.Errorf("%s: weyl.Degrees = %v, %d, want %v", k.name, got, e, k.degrees)
		}
		for _, other := range writtenKinds() {
			if len(k.square)+len(other.square) > api.MaxRank {
				continue
			}
			want := slices.Sorted(slices.Values(slices.Concat(k.degrees, other.degrees)))
			if got, e := weyl.Degrees(beside(k.square, other.square)); e != api.OK || !slices.Equal(got, want) {
				t.Errorf("%s, %s: weyl.Degrees = %v, %d, want %v", k.name, other.name, got, e, want)
			}
		}
	}
}

// Z2
func TestWeylLists(t *testing.T) {
	was, aWas, bWas := writtenOf("B3").square, []int{2, 1, 2, 0, 0}, []int{2, 1, 2, 1, 0}
	c, a, b := roomyLists(was), roomy(aWas), roomy(bWas)
	var lists [2][][]int
	for round := range lists {
		short, e := weyl.Reduce(c, a)
		ends, f := weyl.Ends(c, b)
		lengths, g := weyl.Lengths(c)
		degrees, h := weyl.Degrees(c)
		longest, i := weyl.Longest(c)
		lists[round] = [][]int{short, ends, lengths, degrees, longest}
		same, j := weyl.Same(c, a, b)
		below, k := weyl.Below(c, a, b)
		if e+f+g+h+i+j+k != api.OK || weyl.Check(c, a) != api.OK || same || !below {
			t.Errorf("%v: %v, %v", lists[round], same, below)
		}
	}
	if !alike(lists[0], lists[1]) {
		t.Errorf("%v the first time, %v the second", lists[0], lists[1])
	}
	if !untouchedLists(c, was) || !untouched(a, aWas) || !untouched(b, bWas) {
		t.Errorf("%v, %v, %v were touched", c, a, b)
	}
	if !apart(slices.Concat(lists[0], lists[1], c, [][]int{a, b})...) {
		t.Error("lists share memory")
	}
}
