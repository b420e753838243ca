package tests

import (
	"slices"
	"testing"

	"facet/api"
	"facet/face"
	"facet/hull"
)

// C2
func TestFaceAlike(t *testing.T) {
	cyclic, _ := hull.Cyclic(4, 7)
	polygon, _ := hull.Cyclic(2, 5)
	more, _ := hull.Cyclic(2, 6)
	twelve, _ := hull.Cyclic(2, 12)
	segment := bodyOf(1, []int{-100}, []int{3}, []int{100})
	kite := bodyOf(2, []int{0, 0}, []int{5, 1}, []int{7, 7}, []int{1, 3}, []int{2, 2}, []int{0, 0})
	stump := bodyOf(3, []int{-3, -3, 0}, []int{-3, 3, 0}, []int{3, -3, 0}, []int{3, 3, 0},
		[]int{-1, -1, 2}, []int{-1, 1, 2}, []int{1, -1, 2}, []int{1, 1, 2})
	house := bodyOf(2, []int{0, 0}, []int{9, 0}, []int{0, 9}, []int{9, 9}, []int{5, 14})
	for _, c := range []struct {
		what string
		p, q api.Polytope
		want bool
	}{
		{"segments", segment, bodyOf(1, []int{1}, []int{0}), true},
		{"a segment and a triangle", segment, bodyOf(2, simplex(2, 1)...), false},
		{"a triangle and a tetrahedron", bodyOf(2, simplex(2, 1)...), bodyOf(3, simplex(3, 1)...), false},
		{"simplices of other sizes", bodyOf(4, simplex(4, 100)...), turnedOver(bodyOf(4, simplex(4, 1)...)), true},
		{"four corners", kite, cube(2, 0, 1), true},
		{"five corners", polygon, house, true},
		{"five corners and six", polygon, more, false},
		{"three corners and six", bodyOf(2, simplex(2, 1)...), more, false},
		{"six corners and twelve", more, twelve, false},
		{"twelve corners and a tetrahedron: as many flags", twelve, bodyOf(3, simplex(3, 1)...), false},
		{"a cube and a stump", cube(3, -1, 1), stump, true},
		{"a cube and an octahedron", cube(3, -1, 1), cross(3, 1), false},
		{"a roof and a sheared one", roof(), sheared(turnedOver(roof())), true},
		{"a tower and its mirror image", tower(), turnedOver(tower()), true},
		{"an octahedron and a tower: as many faces", cross(3, 1), tower(), false},
		{"pyramids over them: as many faces", pyramid(cross(3, 1)), pyramid(tower()), false},
		{"pyramids over a tower and its image", pyramid(tower()), turnedOver(pyramid(sheared(tower()))), true},
		{"cyclic 4 7 and another way round", cyclic, turnedOver(cyclic), true},
		{"a cross and a cube of four", cross(4, 1), cube(4, -1, 1), false},
		{"twenty-four octahedra", twentyFour(), sheared(turnedOver(twentyFour())), true},
		{"the most faces", crowded(), turnedOver(crowded()), true},
		{"24 corners each", twentyFour(), crowded(), false},
	} {
		if got, e := face.Alike(c.p, c.q); e != api.OK || got != c.want {
			t.Errorf("%s: Alike = %v, %d, want %v", c.what, got, e, c.want)
		}
		if got, e := face.Alike(c.q, c.p); e != api.OK || got != c.want {
			t.Errorf("%s, the other way: Alike = %v, %d, want %v", c.what, got, e, c.want)
		}
	}
}

// sidesByBits are the sides of a polytope, each as a number whose bit i says that corner i is there; rising.
func sidesByBits(p api.Polytope) (sides []int, corners int) {
	rows, _ := hull.Rows(p)
	points, _ := hull.Corners(p)
	for _, row := range rows {
		side := 0
		for i, x := range points {
			sum := 0
			for j, v := range x {
				sum += row[j] * v
			}
			if sum == row[p.Dim] {
				side |= 1 << i
			}
		}
		sides = append(sides, side)
	}
	slices.Sort(sides)
	return sides, len(points)
}

// someOrder: is there an order of 0 .. n - 1 for which ask says so?
func someOrder(n int, ask func(order []int) bool) bool {
	order := make([]int, n)
	for i := range order {
		order[i] = i
	}
	var swap func(at int) bool
	swap = func(at int) bool {
		if at == n {
			return ask(order)
		}
		for i := at; i < n; i++ {
			order[at], order[i] = order[i], order[at]
			if swap(at + 1) {
				return true
			}
			order[at], order[i] = order[i], order[at]
		}
		return false
	}
	return swap(0)
}

// turnsTo tries all ways to turn the corners of p to those of q.
func turnsTo(p, q api.Polytope) bool {
	a, n := sidesByBits(p)
	b, m := sidesByBits(q)
	if n != m || len(a) != len(b) {
		return false
	}
	return someOrder(n, func(order []int) bool {
		for _, side := range a {
			turned := 0
			for i, to := range order {
				turned |= side >> i & 1 << to
			}
			if _, ok := slices.BinarySearch(b, turned); !ok {
				return false
			}
		}
		return true
	})
}

// C2: whatever is alike can be turned, corner by corner, and nothing else.
func TestFaceAlikeTriesAllTurns(t *testing.T) {
	d := die(31)
	var pool []api.Polytope
	var counts [][]int
	for len(pool) < 80 {
		p := drawn(&d, 3+len(pool)%2)
		if f, _ := face.Counts(p); f[1] <= 7 {
			pool, counts = append(pool, p), append(counts, f)
		}
	}
	pool, counts = append(pool, cross(3, 1), tower()), append(counts, []int{1, 6, 12, 8, 1}, []int{1, 6, 12, 8, 1})
	alikes, unlike := 0, 0
	for i, p := range pool {
		for j, q := range pool[:i] {
			want := turnsTo(p, q)
			if slices.Equal(counts[i], counts[j]) && want {
				alikes++
			} else if slices.Equal(counts[i], counts[j]) {
				unlike++
			}
			if got, e := face.Alike(p, q); e != api.OK || got != want {
				t.Errorf("face.Alike(%v, %v) = %v, %d, want %v", p, q, got, e, want)
			}
		}
	}
	if alikes < 20 || unlike < 20 {
		t.Errorf("of those that have as many faces, %d pairs are alike, %d are not: too few to tell", alikes, unlike)
	}
}
