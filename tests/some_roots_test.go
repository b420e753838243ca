package tests

import (
	"fmt"
	"slices"
	"strings"
)

type writtenKind struct {
	name    string
	square  [][]int
	roots   int // above 0
	highest []int
	lengths []int
	degrees []int
}

// writtenKinds are all kinds, written out.
func writtenKinds() []writtenKind {
	return []writtenKind{
		{"A1", [][]int{{2}}, 1, []int{1}, []int{1}, []int{2}},
		{"A2", [][]int{{2, -1}, {-1, 2}}, 3, []int{1, 1}, []int{1, 1}, []int{2, 3}},
		{"A3", [][]int{{2, -1, 0}, {-1, 2, -1}, {0, -1, 2}}, 6, []int{1, 1, 1}, []int{1, 1, 1}, []int{2, 3, 4}},
		{"A4", [][]int{{2, -1, 0, 0}, {-1, 2, -1, 0}, {0, -1, 2, -1}, {0, 0, -1, 2}}, 10, []int{1, 1, 1, 1}, []int{1, 1, 1, 1}, []int{2, 3, 4, 5}},
		{"B2", [][]int{{2, -2}, {-1, 2}}, 4, []int{1, 2}, []int{2, 1}, []int{2, 4}},
		{"B3", [][]int{{2, -1, 0}, {-1, 2, -2}, {0, -1, 2}}, 9, []int{1, 2, 2}, []int{2, 2, 1}, []int{2, 4, 6}},
		{"B4", [][]int{{2, -1, 0, 0}, {-1, 2, -1, 0}, {0, -1, 2, -2}, {0, 0, -1, 2}}, 16, []int{1, 2, 2, 2}, []int{2, 2, 2, 1}, []int{2, 4, 6, 8}},
		{"C3", [][]int{{2, -1, 0}, {-1, 2, -1}, {0, -2, 2}}, 9, []int{2, 2, 1}, []int{1, 1, 2}, []int{2, 4, 6}},
		{"C4", [][]int{{2, -1, 0, 0}, {-1, 2, -1, 0}, {0, -1, 2, -1}, {0, 0, -2, 2}}, 16, []int{2, 2, 2, 1}, []int{1, 1, 1, 2}, []int{2, 4, 6, 8}},
		{"D4", [][]int{{2, -1, 0, 0}, {-1, 2, -1, -1}, {0, -1, 2, 0}, {0, -1, 0, 2}}, 12, []int{1, 2, 1, 1}, []int{1, 1, 1, 1}, []int{2, 4, 4, 6}},
		{"F4", [][]int{{2, -1, 0, 0}, {-1, 2, -2, 0}, {0, -1, 2, -1}, {0, 0, -1, 2}}, 24, []int{2, 3, 4, 2}, []int{2, 2, 1, 1}, []int{2, 6, 8, 12}},
		{"G2", [][]int{{2, -1}, {-3, 2}}, 6, []int{3, 2}, []int{1, 3}, []int{2, 6}},
	}
}

// writtenOf is the kind of that name.
func writtenOf(name string) writtenKind {
	kinds := writtenKinds()
	return kinds[slices.IndexFunc(kinds, func(k writtenKind) bool { return k.name == name })]
}

// allNames are those of all squares of a rank from 1 to 4, the parts in each order.
func allNames() []string {
	var out []string
	var grow func(ahead []string, room int)
	grow = func(ahead []string, room int) {
		if len(ahead) > 0 {
			out = append(out, strings.Join(ahead, "+"))
		}
		for _, k := range writtenKinds() {
			if len(k.square) <= room {
				grow(append(slices.Clone(ahead), k.name), room-len(k.square))
			}
		}
	}
	grow(nil, 4)
	return out
}

// beside has squares one behind the other, 0 between.
func beside(squares ...[][]int) [][]int {
	rank := 0
	for _, s := range squares {
		rank += len(s)
	}
	c, ahead := repeat(make([]int, rank), rank), 0
	for _, s := range squares {
		for i, row := range s {
			copy(c[ahead+i][ahead:], row)
		}
		ahead += len(s)
	}
	return c
}

// writtenSquare is the square of a name that may be, by the written kinds.
func writtenSquare(name string) [][]int {
	var squares [][][]int
	for _, piece := range strings.Split(name, "+") {
		squares = append(squares, writtenOf(piece).square)
	}
	return beside(squares...)
}

// put has the simple roots in another order.
func put(c [][]int, order []int) [][]int {
	out := repeat(make([]int, len(c)), len(c))
	for i, of := range order {
		for k, by := range order {
			out[i][k] = c[of][by]
		}
	}
	return out
}

// someRoots are the squares of all names, each also in an order that is drawn.
func someRoots(seed die) [][][]int {
	var out [][][]int
	for _, name := range allNames() {
		c := writtenSquare(name)
		out = append(out, c, put(c, shuffled(&seed, len(c))))
	}
	return out
}

// drawnSquare has 2 in each own place; two of three pairs are 0, most others -1.
func drawnSquare(d *die, rank int) [][]int {
	c := repeat(make([]int, rank), rank)
	for i := range rank {
		c[i][i] = 2
		for k := range i {
			if d.below(3) > 0 {
				c[i][k], c[k][i] = -1-d.below(8)/5, -1-d.below(9)/6
			}
		}
	}
	return c
}

// overBy is b, turned over by the j-th, word for word.
func overBy(c [][]int, b []int, j int) []int {
	out := slices.Clone(b)
	for i := range b {
		out[j] -= b[i] * c[i][j]
	}
	return out
}

// aboveByWords goes through what comes of the simple roots, above 0 and below; so many
// above 0 are enough.
func aboveByWords(c [][]int, enough int) [][]int {
	var all, above [][]int
	seen := map[string]bool{}
	add := func(b []int) {
		if key := fmt.Sprint(b); !seen[key] {
			seen[key] = true
			all = append(all, b)
			if slices.Min(b) >= 0 {
				above = append(above, b)
			}
		}
	}
	for i := range c {
		simple := make([]int, len(c))
		simple[i] = 1
		add(simple)
	}
	for next := 0; next < len(all) && len(above) < enough; next++ {
		for j := range c {
			add(overBy(c, all[next], j))
		}
	}
	return above
}
