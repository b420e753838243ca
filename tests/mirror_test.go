package tests

import (
	"slices"
	"testing"

	"facet/mirror"
)

func TestMirrorOver(t *testing.T) {
	c := writtenOf("G2").square
	for _, of := range []struct {
		marks []int
		root  int
		want  []int
	}{
		{[]int{1, 1}, 0, []int{-1, 2}},
		{[]int{1, 1}, 1, []int{4, -1}},
		{[]int{0, 5}, 0, []int{0, 5}},
		{[]int{-2, 3}, 0, []int{2, 1}},
	} {
		marks := slices.Clone(of.marks)
		if mirror.Over(c, marks, of.root); !slices.Equal(marks, of.want) {
			t.Errorf("%v by %d = %v, want %v", of.marks, of.root, marks, of.want)
		}
		if mirror.Over(c, marks, of.root); !slices.Equal(marks, of.marks) {
			t.Errorf("%v, turned over twice by %d, = %v", of.marks, of.root, marks)
		}
	}
}

// Marks that stand upright stay, others come to such, the first below 0 first.
func TestMirrorUpright(t *testing.T) {
	c := writtenOf("A2").square
	for _, of := range []struct{ marks, want, by []int }{
		{[]int{2, 0}, []int{2, 0}, nil},
		{[]int{0, 0}, []int{0, 0}, nil},
		{[]int{-1, 1}, []int{1, 0}, []int{0}},
		{[]int{-1, 0}, []int{0, 1}, []int{0, 1}},
		{[]int{-1, -1}, []int{1, 1}, []int{0, 1, 0}},
		{[]int{3, -2}, []int{1, 2}, []int{1}},
	} {
		marks := slices.Clone(of.marks)
		if by := mirror.Upright(c, marks); !slices.Equal(marks, of.want) || !slices.Equal(by, of.by) {
			t.Errorf("%v = %v by %v, want %v by %v", of.marks, marks, by, of.want, of.by)
		}
	}
	d := die(341)
	for _, c := range someRoots(342) {
		was := d.list(len(c), 20)
		marks := slices.Clone(was)
		by := mirror.Upright(c, marks)
		if slices.Min(marks) < 0 {
			t.Errorf("%v: %v = %v by %v", c, was, marks, by)
		}
		for _, root := range slices.Backward(by) {
			mirror.Over(c, marks, root)
		}
		if !slices.Equal(marks, was) {
			t.Errorf("%v: %v by %v comes back to %v", c, was, by, marks)
		}
	}
}
