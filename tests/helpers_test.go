// Package tests has the tests of all layers, which they pass by their faces alone.
package tests

import (
	"slices"
	"testing"
)

// mark is a number that stands in no list of a test.
const mark = 1 << 40

// die gives numbers that look drawn, the same each time.
type die uint64

// below is a number from 0 to n - 1.
func (d *die) below(n int) int {
	*d = *d*6364136223846793005 + 1442695040888963407
	return int(uint64(*d>>33) % uint64(n))
}

// list has so many numbers, none beyond most.
func (d *die) list(many, most int) []int {
	l := make([]int, many)
	for i := range l {
		l[i] = d.below(2*most+1) - most
	}
	return l
}

// lists are so many of them.
func (d *die) lists(rows, columns, most int) [][]int {
	m := make([][]int, rows)
	for i := range m {
		m[i] = d.list(columns, most)
	}
	return m
}

// repeat has so many copies of a list.
func repeat(l []int, many int) [][]int {
	m := make([][]int, many)
	for i := range m {
		m[i] = slices.Clone(l)
	}
	return m
}

// copied shares no memory with m.
func copied(m [][]int) [][]int {
	var out [][]int
	for _, l := range m {
		out = append(out, slices.Clone(l))
	}
	return out
}

// alike: have two lists of lists the same numbers?
func alike(a, b [][]int) bool {
	return slices.EqualFunc(a, b, slices.Equal[[]int])
}

// choices of so many of 0 .. n - 1, as rising lists.
func choices(n, many int) [][]int {
	if many == 0 {
		return [][]int{{}}
	}
	var out [][]int
	for last := range n {
		for _, c := range choices(last, many-1) {
			out = append(out, append(c, last))
		}
	}
	return out
}

// roomy is a copy of l with marks in the room behind it.
func roomy(l []int) []int {
	return append(slices.Clone(l), mark, mark)[:len(l)]
}

// roomyLists is a copy of m with such room behind each list and behind all.
func roomyLists(m [][]int) [][]int {
	var out [][]int
	for _, l := range m {
		out = append(out, roomy(l))
	}
	return append(out, []int{mark})[:len(m)]
}

// untouched: does l still have the numbers of was, and its marks behind them?
func untouched(l, was []int) bool {
	room := l[len(l):cap(l)]
	return slices.Equal(l, was) && len(room) >= 2 && room[0] == mark && room[1] == mark
}

// untouchedLists: is m as roomyLists made it of was?
func untouchedLists(m, was [][]int) bool {
	room := m[len(m):cap(m)]
	return slices.EqualFunc(m, was, untouched) && len(room) > 0 && slices.Equal(room[0], []int{mark})
}

// apart: do no two lists share memory, the room behind them with it?
func apart[T any](lists ...[]T) bool {
	seen := map[*T]int{}
	for i, l := range lists {
		full := l[:cap(l)]
		for k := range full {
			if whose, ok := seen[&full[k]]; ok && whose != i {
				return false
			}
			seen[&full[k]] = i
		}
	}
	return true
}

// The helpers themselves: a test that leans on one that sees nothing is none.
func TestApart(t *testing.T) {
	whole := make([]int, 6)
	if apart(whole[:2], whole[4:]) {
		t.Error("the room behind the first list is the second one")
	}
	if apart(whole[:3:3], whole[2:]) {
		t.Error("both have the third number")
	}
	if !apart(whole[:3:3], whole[3:], []int{1}, nil) {
		t.Error("nothing is shared")
	}
	lists := [][]int{{1}, {2}}
	if apart(lists, lists[1:]) || !apart(lists, slices.Clone(lists)) {
		t.Error("lists of lists are looked at themselves")
	}
}

func TestUntouched(t *testing.T) {
	was := [][]int{{1, 2}, {3, 4}}
	if m := roomyLists(was); !untouchedLists(m, was) || !alike(m, was) {
		t.Error("nothing was touched")
	}
	for _, touch := range []func(m [][]int){
		func(m [][]int) { m[0], m[1] = m[1], m[0] },
		func(m [][]int) { m[1][0] = 5 },
		func(m [][]int) { _ = append(m, nil) },
		func(m [][]int) { _ = append(m[1], 5) },
	} {
		m := roomyLists(was)
		touch(m)
		if untouchedLists(m, was) {
			t.Errorf("%v was touched", m)
		}
	}
}
