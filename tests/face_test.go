package tests

import (
	"slices"
	"testing"

	"facet/api"
	"facet/face"
	"facet/hull"
)

// sameLattice: are the same faces of the same dimensions told in the same order?
func sameLattice(a, b [][][]int) bool { return slices.EqualFunc(a, b, alike) }

func latticeCases() []struct {
	what string
	p    api.Polytope
	want [][][]int
} {
	return []struct {
		what string
		p    api.Polytope
		want [][][]int
	}{
		{"the square", bodyOf(2, []int{0, 0}, []int{2, 0}, []int{0, 2}, []int{2, 2}), [][][]int{
			{{}}, {{0}, {1}, {2}, {3}}, {{0, 1}, {0, 2}, {1, 3}, {2, 3}}, {{0, 1, 2, 3}},
		}},
		{"a segment", bodyOf(1, []int{5}, []int{-3}), [][][]int{{{}}, {{0}, {1}}, {{0, 1}}}},
		{"the longest segment, with points between and twice",
			bodyOf(1, []int{0}, []int{100}, []int{-100}, []int{7}, []int{100}, []int{0}), [][][]int{{{}}, {{0}, {1}}, {{0, 1}}}},
		{"a triangle, with a point on a side, one inside and one twice",
			bodyOf(2, []int{4, 0}, []int{2, 0}, []int{1, 1}, []int{0, 4}, []int{0, 0}, []int{0, 4}), [][][]int{
				{{}}, {{0}, {1}, {2}}, {{0, 1}, {0, 2}, {1, 2}}, {{0, 1, 2}},
			}},
		{"a roof", roof(), [][][]int{
			{{}},
			{{0}, {1}, {2}, {3}, {4}},
			{{0, 1}, {0, 2}, {0, 3}, {1, 2}, {1, 4}, {2, 3}, {2, 4}, {3, 4}},
			{{0, 1, 2}, {0, 1, 3, 4}, {0, 2, 3}, {1, 2, 4}, {2, 3, 4}},
			{{0, 1, 2, 3, 4}},
		}},
		{"a simplex of four dimensions", bodyOf(4, simplex(4, 100)...), [][][]int{
			{{}},
			{{0}, {1}, {2}, {3}, {4}},
			{{0, 1}, {0, 2}, {0, 3}, {0, 4}, {1, 2}, {1, 3}, {1, 4}, {2, 3}, {2, 4}, {3, 4}},
			{{0, 1, 2}, {0, 1, 3}, {0, 1, 4}, {0, 2, 3}, {0, 2, 4}, {0, 3, 4}, {1, 2, 3}, {1, 2, 4}, {1, 3, 4}, {2, 3, 4}},
			{{0, 1, 2, 3}, {0, 1, 2, 4}, {0, 1, 3, 4}, {0, 2, 3, 4}, {1, 2, 3, 4}},
			{{0, 1, 2, 3, 4}},
		}},
	}
}

// C1
func TestFaceLattice(t *testing.T) {
	for _, c := range latticeCases() {
		if got, e := face.Lattice(c.p); e != api.OK || !sameLattice(got, c.want) {
			t.Errorf("%s: Lattice = %v, %d, want %v", c.what, got, e, c.want)
		}
		if got, e := face.Graph(c.p); e != api.OK || !alike(got, c.want[2]) {
			t.Errorf("%s: Graph = %v, %d, want %v", c.what, got, e, c.want[2])
		}
		var counts []int
		for _, faces := range c.want {
			counts = append(counts, len(faces))
		}
		if got, e := face.Counts(c.p); e != api.OK || !slices.Equal(got, counts) {
			t.Errorf("%s: Counts = %v, %d, want %v", c.what, got, e, counts)
		}
	}
}

// C1, C2: lists are in order by their numbers, 2 ahead of 10.
func TestFaceGraphOfManyCorners(t *testing.T) {
	p, _ := hull.Cyclic(2, 21)
	var want [][]int
	for i := range 20 {
		want = append(want, []int{i, i + 1})
	}
	want = slices.Insert(want, 1, []int{0, 20})
	if got, e := face.Graph(p); e != api.OK || !alike(got, want) {
		t.Errorf("Graph = %v, %d, want %v", got, e, want)
	}
	if got, e := face.Lattice(p); e != api.OK || len(got) != 4 || len(got[1]) != 21 || !alike(got[2], want) {
		t.Errorf("Lattice = %v, %d", got, e)
	}
}

type faceCountsCase struct {
	what               string
	p                  api.Polytope
	counts             []int
	simplicial, simple bool
	short              []int
}

func faceCountsCases() []faceCountsCase {
	cyclic, _ := hull.Cyclic(4, 7)
	polygon, _ := hull.Cyclic(2, 21)
	prism := bodyOf(3, []int{0, 0, 0}, []int{1, 0, 0}, []int{0, 1, 0}, []int{0, 0, 1}, []int{1, 0, 1}, []int{0, 1, 1})
	crowd := api.Polytope{Dim: 4, Points: append(simplex(4, 9), repeat([]int{1, 1, 1, 1}, api.MaxPoints-5)...)}
	return []faceCountsCase{
		{"a segment", bodyOf(1, []int{0}, []int{1}), []int{1, 2, 1}, true, true, []int{1, 1}},
		{"a triangle", bodyOf(2, simplex(2, 1)...), []int{1, 3, 3, 1}, true, true, []int{1, 1, 1}},
		{"21 corners", polygon, []int{1, 21, 21, 1}, true, true, []int{1, 19, 1}},
		{"a tetrahedron", bodyOf(3, simplex(3, 1)...), []int{1, 4, 6, 4, 1}, true, true, []int{1, 1, 1, 1}},
		{"a roof", roof(), []int{1, 5, 8, 5, 1}, false, false, nil},
		{"a prism", prism, []int{1, 6, 9, 5, 1}, false, true, nil},
		{"a cube", cube(3, -100, 100), []int{1, 8, 12, 6, 1}, false, true, nil},
		{"an octahedron", cross(3, 100), []int{1, 6, 12, 8, 1}, true, false, []int{1, 3, 3, 1}},
		{"a tower", tower(), []int{1, 6, 12, 8, 1}, true, false, []int{1, 3, 3, 1}},
		{"a simplex, its points MaxPoints", crowd, []int{1, 5, 10, 10, 5, 1}, true, true, []int{1, 1, 1, 1, 1}},
		{"a cube of four dimensions", cube(4, 0, 1), []int{1, 16, 32, 24, 8, 1}, false, true, nil},
		{"a cross of four dimensions", cross(4, 1), []int{1, 8, 24, 32, 16, 1}, true, false, []int{1, 4, 6, 4, 1}},
		{"cyclic 4 7", cyclic, []int{1, 7, 21, 28, 14, 1}, true, false, []int{1, 3, 6, 3, 1}},
		{"twenty-four octahedra", twentyFour(), []int{1, 24, 96, 96, 24, 1}, false, false, nil},
		{"a pyramid over a pyramid", pyramid(roof()), []int{1, 6, 13, 13, 6, 1}, false, false, nil},
		{"the most faces", crowded(), []int{1, 24, 276, 504, 252, 1}, true, false, []int{1, 20, 210, 20, 1}},
	}
}

// C1, C2: polytopes whose numbers are known; a polytope is simplicial, simple, both or neither.
func TestFaceCountsKindShort(t *testing.T) {
	for _, c := range faceCountsCases() {
		if got, e := face.Counts(c.p); e != api.OK || !slices.Equal(got, c.counts) {
			t.Errorf("%s: Counts = %v, %d, want %v", c.what, got, e, c.counts)
		}
		if a, b, e := face.Kind(c.p); e != api.OK || a != c.simplicial || b != c.simple {
			t.Errorf("%s: Kind = %v, %v, %d, want %v, %v", c.what, a, b, e, c.simplicial, c.simple)
		}
		want := api.OK
		if !c.simplicial {
			want = api.ErrForm
		}
		if got, e := face.Short(c.p); e != want || !slices.Equal(got, c.short) {
			t.Errorf("%s: Short = %v, %d, want %v, %d", c.what, got, e, c.short, want)
		}
		if got, e := face.Graph(c.p); e != api.OK || len(got) != c.counts[2] {
			t.Errorf("%s: Graph = %v, %d, want %d edges", c.what, got, e, c.counts[2])
		}
	}
}

// C1, C2, Z1: each call says first what hull.Check says, of p ahead of q, and nothing else with it.
func TestFaceCallsSayWhatCheckSays(t *testing.T) {
	good := bodyOf(1, []int{0}, []int{1})
	for _, c := range hullCheckCases() {
		if r, e := face.Lattice(c.p); e != c.want || e != api.OK && len(r) != 0 {
			t.Errorf("%s: Lattice = %v, %d, want error %d", c.what, r, e, c.want)
		}
		if r, e := face.Counts(c.p); e != c.want || e != api.OK && len(r) != 0 {
			t.Errorf("%s: Counts = %v, %d, want error %d", c.what, r, e, c.want)
		}
		if a, b, e := face.Kind(c.p); e != c.want || e != api.OK && (a || b) {
			t.Errorf("%s: Kind = %v, %v, %d, want error %d", c.what, a, b, e, c.want)
		}
		if r, e := face.Short(c.p); e != c.want || e != api.OK && len(r) != 0 {
			t.Errorf("%s: Short = %v, %d, want error %d", c.what, r, e, c.want)
		}
		if r, e := face.Graph(c.p); e != c.want || e != api.OK && len(r) != 0 {
			t.Errorf("%s: Graph = %v, %d, want error %d", c.what, r, e, c.want)
		}
		if r, e := face.Alike(c.p, good); e != c.want || e != api.OK && r {
			t.Errorf("%s: Alike, first = %v, %d, want error %d", c.what, r, e, c.want)
		}
		if r, e := face.Alike(good, c.p); e != c.want || e != api.OK && r {
			t.Errorf("%s: Alike, second = %v, %d, want error %d", c.what, r, e, c.want)
		}
		for _, d := range hullCheckCases() {
			want := c.want
			if want == api.OK {
				want = d.want
			}
			if r, e := face.Alike(c.p, d.p); e != want || e != api.OK && r {
				t.Errorf("%s, %s: Alike = %v, %d, want error %d", c.what, d.what, r, e, want)
			}
		}
	}
}

// Z2: nothing is written into or read behind its end, and no two lists share memory.
func TestFaceLists(t *testing.T) {
	for _, points := range [][][]int{roof().Points, cross(3, 2).Points, tower().Points} {
		p := api.Polytope{Dim: 3, Points: roomyLists(points)}
		q := api.Polytope{Dim: 3, Points: roomyLists(points)}
		var lists [][]int
		var levels [][][]int
		for range 2 {
			lattice, _ := face.Lattice(p)
			counts, _ := face.Counts(p)
			short, _ := face.Short(p)
			graph, _ := face.Graph(p)
			if ok, e := face.Alike(p, q); !ok || e != api.OK {
				t.Errorf("Alike(%v, %v) = %v, %d", p, q, ok, e)
			}
			face.Kind(p)
			levels = append(append(levels, graph), lattice...)
			lists = append(slices.Concat(lists, graph, slices.Concat(lattice...)), counts, short)
			if len(lattice) != 5 {
				t.Errorf("Lattice = %v", lattice)
			}
		}
		if !untouchedLists(p.Points, points) || !untouchedLists(q.Points, points) {
			t.Errorf("%v, %v: what was handed in is not as it was", p, q)
		}
		if !apart(append(levels, p.Points, q.Points)...) || !apart(slices.Concat(lists, p.Points, q.Points)...) {
			t.Errorf("%v: lists share memory", p)
		}
	}
}
