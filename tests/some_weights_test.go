package tests

import (
	"fmt"
	"slices"

	"facet/api"
	"facet/weight"
)

// smallRoots are the squares of all names of a rank of 3 at the most, each in two orders.
func smallRoots(seed die) [][][]int {
	return slices.DeleteFunc(someRoots(seed), func(c [][]int) bool { return len(c) > 3 })
}

// drawnTop is a weight that may stand at the top; what belongs to it is so many at the most.
func drawnTop(d *die, c [][]int, most int) []int {
	for {
		top := make([]int, len(c))
		for i := range top {
			top[i] = d.below(1 + d.below(7))
		}
		if size, e := weight.Size(c, top); e == api.OK && size <= most {
			return top
		}
	}
}

// allTops are all lists of that many numbers from 0 to most.
func allTops(rank, most int) [][]int {
	if rank == 0 {
		return [][]int{nil}
	}
	var out [][]int
	for _, ahead := range allTops(rank-1, most) {
		for last := range most + 1 {
			out = append(out, append(slices.Clone(ahead), last))
		}
	}
	return out
}

// ofSum is the weight of a sum of roots.
func ofSum(c [][]int, b []int) []int {
	w := make([]int, len(c))
	for j := range c {
		for i := range c {
			w[j] += b[i] * c[i][j]
		}
	}
	return w
}

// productOf a weight and a sum of roots, with the lengths found anew.
func productOf(c [][]int, w, b []int) int {
	product := 0
	for i, length := range lengthsByWords(c) {
		product += b[i] * length * w[i]
	}
	return product
}

// lengthsByWords tries all lists of the numbers 1 to 3 that have a 1 in each part.
func lengthsByWords(c [][]int) []int {
	for _, l := range allTops(len(c), 2) {
		isGood := true
		for i := range c {
			for j := range c {
				isGood = isGood && c[i][j]*(l[j]+1) == c[j][i]*(l[i]+1)
			}
		}
		for _, part := range rootParts(c) {
			isGood = isGood && slices.ContainsFunc(part, func(i int) bool { return l[i] == 0 })
		}
		if isGood {
			for i := range l {
				l[i]++
			}
			return l
		}
	}
	return nil
}

// timesOf a list: its numbers, each so many times.
func timesOf(l []int, times int) []int {
	out := slices.Clone(l)
	for i := range out {
		out[i] *= times
	}
	return out
}

// less: what one list has more than another.
func less(a, b []int) []int {
	out := slices.Clone(a)
	for i := range out {
		out[i] -= b[i]
	}
	return out
}

// freudenthal has how many times top less a sum of roots belongs to top, word for word.
type freudenthal struct {
	c     [][]int
	top   []int
	above [][]int
	known map[string]int
}

func newFreudenthal(c [][]int, top []int) freudenthal {
	return freudenthal{c, top, aboveByWords(c, 100), map[string]int{}}
}

func (f freudenthal) many(s []int) int {
	if slices.Min(s) < 0 {
		return 0
	}
	if slices.Max(s) == 0 {
		return 1
	}
	key := fmt.Sprint(s)
	if _, ok := f.known[key]; !ok {
		f.known[key] = f.reckon(s)
	}
	return f.known[key]
}

func (f freudenthal) reckon(s []int) int {
	ones := slices.Repeat([]int{1}, len(f.c))
	w := less(f.top, ofSum(f.c, s))
	twice := less(less(timesOf(f.top, 2), timesOf(ones, -2)), ofSum(f.c, s))
	g := productOf(f.c, twice, s)
	if g <= 0 {
		return 0
	}
	sum := 0
	for _, b := range f.above {
		for k := 1; k <= slices.Max(s); k++ {
			n := f.many(less(s, timesOf(b, k)))
			if n != 0 {
				sum += 2 * n * productOf(f.c, less(w, timesOf(ofSum(f.c, b), -k)), b)
			}
		}
	}
	if sum%g != 0 {
		panic(fmt.Sprint(f.c, f.top, s, sum, g))
	}
	return sum / g
}

// lowest is what is taken from top, as a sum of roots, when it is turned over as far as it goes.
func lowest(c [][]int, top []int) []int {
	w, taken := slices.Clone(top), make([]int, len(c))
	for {
		i := slices.IndexFunc(w, func(v int) bool { return v > 0 })
		if i < 0 {
			return taken
		}
		taken[i] += w[i]
		w = less(w, timesOf(c[i], w[i]))
	}
}

// marksByWords goes through all that may be taken from top, and a little more.
func marksByWords(c [][]int, top []int) []api.Weighed {
	f := newFreudenthal(c, top)
	sums := [][]int{nil}
	for _, most := range lowest(c, top) {
		var next [][]int
		for _, s := range sums {
			for v := range most + 2 {
				next = append(next, append(slices.Clone(s), v))
			}
		}
		sums = next
	}
	var out []api.Weighed
	for _, s := range sums {
		if n := f.many(s); n > 0 {
			out = append(out, api.Weighed{Mark: less(top, ofSum(c, s)), Many: n})
		}
	}
	return risingMarks(out)
}

func risingMarks(l []api.Weighed) []api.Weighed {
	slices.SortFunc(l, func(a, b api.Weighed) int { return slices.Compare(a.Mark, b.Mark) })
	return l
}

// sameWeighed: have both the same weights, as many times?
func sameWeighed(a, b []api.Weighed) bool {
	return slices.EqualFunc(a, b, func(x, y api.Weighed) bool { return x.Many == y.Many && slices.Equal(x.Mark, y.Mark) })
}

// marksIn are the lists of what is weighed.
func marksIn(l []api.Weighed) [][]int {
	var out [][]int
	for _, w := range l {
		out = append(out, w.Mark)
	}
	return out
}

// weighedOf has of each list a weight, but its last number: that is how often it is there.
func weighedOf(lists [][]int) []api.Weighed {
	var out []api.Weighed
	for _, l := range lists {
		last := len(l) - 1
		out = append(out, api.Weighed{Mark: l[:last], Many: l[last]})
	}
	return out
}
