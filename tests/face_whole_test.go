package tests

import (
	"slices"
	"testing"

	"facet/api"
	"facet/face"
)

// latticeBySets goes by the words of C1: all that any of the sides have in common, and
// all corners. The dimension is how long a chain of faces goes down to the empty one.
func latticeBySets(p api.Polytope) [][][]int {
	sides, corners := sidesByBits(p)
	seen := map[int]int{}
	var faces []int
	for chosen := range 1 << len(sides) {
		common := 1<<corners - 1
		for i, side := range sides {
			if chosen>>i&1 == 1 {
				common &= side
			}
		}
		if seen[common]++; seen[common] == 1 {
			faces = append(faces, common)
		}
	}
	slices.Sort(faces) // what is in a face is a lesser number
	level := map[int]int{}
	out := make([][][]int, p.Dim+2)
	for i, f := range faces {
		for _, g := range faces[:i] {
			if g&^f == 0 {
				level[f] = max(level[f], level[g]+1)
			}
		}
		list := []int{}
		for c := range corners {
			if f>>c&1 == 1 {
				list = append(list, c)
			}
		}
		out[level[f]] = append(out[level[f]], list)
	}
	for _, l := range out {
		slices.SortFunc(l, slices.Compare[[]int])
	}
	return out
}

// C1: the faces are what sides have in common, and nothing else.
func TestFaceLatticeBySets(t *testing.T) {
	d := die(21)
	for round := range 120 {
		p := drawn(&d, 1+round%4)
		if sides, _ := sidesByBits(p); len(sides) > 12 {
			continue
		}
		want := latticeBySets(p)
		if got, e := face.Lattice(p); e != api.OK || !sameLattice(got, want) {
			t.Errorf("face.Lattice(%v) = %v, %d, want %v", p, got, e, want)
		}
		if got, e := face.Graph(p); e != api.OK || !alike(got, want[2]) {
			t.Errorf("face.Graph(%v) = %v, %d, want %v", p, got, e, want[2])
		}
	}
}

// someBodies are drawn ones, some of them of great numbers, and those of the other tests.
func someBodies(seed die) []api.Polytope {
	var out []api.Polytope
	for round := range 80 {
		dim := 1 + round%4
		out = append(out, drawn(&seed, dim))
		if round%2 == 0 {
			out = append(out, api.Polytope{Dim: dim, Points: append(simplex(dim, -100), seed.lists(6, dim, api.MaxCoord)...)})
		}
	}
	for _, c := range faceCountsCases() {
		out = append(out, c.p)
	}
	return out
}

// Point 2 of the whole: Euler's sum is 0.
func TestFaceEuler(t *testing.T) {
	for _, p := range someBodies(22) {
		counts, e := face.Counts(p)
		sum, sign := 0, 1
		for _, many := range counts {
			sum += sign * many
			sign = -sign
		}
		if e != api.OK || len(counts) != p.Dim+2 || sum != 0 {
			t.Errorf("face.Counts(%v) = %v, %d: Euler's sum is %d", p, counts, e, sum)
		}
	}
}

func isIn(small, great []int) bool {
	return !slices.ContainsFunc(small, func(v int) bool { return !slices.Contains(great, v) })
}

// Point 2 of the whole: between two faces two apart there are two.
func TestFaceTwoBetween(t *testing.T) {
	for _, p := range someBodies(23) {
		lattice, _ := face.Lattice(p)
		if len(lattice) != p.Dim+2 || len(lattice[1]) > 20 {
			continue
		}
		for i, below := range lattice[:p.Dim] {
			for _, f := range below {
				for _, h := range lattice[i+2] {
					many := 0
					for _, g := range lattice[i+1] {
						if isIn(f, g) && isIn(g, h) {
							many++
						}
					}
					if isIn(f, h) && many != 2 {
						t.Errorf("face.Lattice(%v): between %v and %v there are %d", p, f, h, many)
					}
				}
			}
		}
	}
}

func power(x, n int) int {
	out := 1
	for range n {
		out *= x
	}
	return out
}

// C2, and point 2 of the whole: Short's polynomial is the sum of the counts', and reads the same both ways.
func TestFaceShort(t *testing.T) {
	simplicial := 0
	for _, p := range someBodies(24) {
		is, _, _ := face.Kind(p)
		short, e := face.Short(p)
		if !is {
			if e != api.ErrForm || len(short) != 0 {
				t.Errorf("face.Short(%v) = %v, %d, want error %d", p, short, e, api.ErrForm)
			}
			continue
		}
		simplicial++
		counts, _ := face.Counts(p)
		for x := -3; x <= 3; x++ {
			got, want := 0, 0
			for i, v := range short {
				got += v * power(x, i)
			}
			for i, many := range counts[:p.Dim+1] {
				want += many * power(x, i) * power(1-x, p.Dim-i)
			}
			if got != want {
				t.Errorf("face.Short(%v) = %v: %d at %d, want %d", p, short, got, x, want)
			}
		}
		back := slices.Clone(short)
		slices.Reverse(back)
		if e != api.OK || len(short) != p.Dim+1 || !slices.Equal(short, back) {
			t.Errorf("face.Short(%v) = %v, %d", p, short, e)
		}
	}
	if simplicial < 40 {
		t.Errorf("%d simplicial ones are too few to tell", simplicial)
	}
}

// C2: Kind, by the words.
func TestFaceKindByLattice(t *testing.T) {
	for _, p := range someBodies(25) {
		lattice, _ := face.Lattice(p)
		simplicial, simple := true, true
		for _, corner := range lattice[1] {
			many := 0
			for _, side := range lattice[p.Dim] {
				simplicial = simplicial && len(side) == p.Dim
				if isIn(corner, side) {
					many++
				}
			}
			simple = simple && many == p.Dim
		}
		if a, b, e := face.Kind(p); a != simplicial || b != simple || e != api.OK {
			t.Errorf("face.Kind(%v) = %v, %v, %d, want %v, %v", p, a, b, e, simplicial, simple)
		}
	}
}
