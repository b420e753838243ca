package tests

import (
	"slices"
	"testing"

	"facet/api"
	"facet/cells"
	"facet/hull"
	"facet/volume"
)

func sameWays(a, b [][][]int) bool { return slices.EqualFunc(a, b, alike) }

// turnOf is above 0, 0 or below 0, as a, b, c turn left, go straight, or turn right.
func turnOf(a, b, c []int) int {
	return (b[0]-a[0])*(c[1]-a[1]) - (b[1]-a[1])*(c[0]-a[0])
}

// T3
func TestAllWays(t *testing.T) {
	for _, c := range []struct {
		what   string
		points [][]int
		want   [][][]int
	}{
		{"the document's", [][]int{{0, 0}, {2, 0}, {0, 2}, {2, 2}}, [][][]int{{{0, 1, 2}, {1, 2, 3}}, {{0, 1, 3}, {0, 2, 3}}}},
		{"a triangle", [][]int{{5, 5}, {0, 9}, {-3, 1}}, [][][]int{{{0, 1, 2}}}},
		{"the greatest square", [][]int{{-100, -100}, {100, -100}, {-100, 100}, {100, 100}}, [][][]int{{{0, 1, 2}, {1, 2, 3}}, {{0, 1, 3}, {0, 2, 3}}}},
		{"a square and its middle", centred(), [][][]int{{{0, 1, 4}, {0, 2, 4}, {1, 3, 4}, {2, 3, 4}}}},
		{"a point in a triangle", [][]int{{0, 0}, {3, 0}, {0, 3}, {1, 1}}, [][][]int{{{0, 1, 3}, {0, 2, 3}, {1, 2, 3}}}},
		{"a point on an edge", [][]int{{0, 0}, {2, 0}, {0, 2}, {1, 0}}, [][][]int{{{0, 2, 3}, {1, 2, 3}}}},
		{"a row and a point beside it", [][]int{{0, 0}, {1, 0}, {2, 0}, {3, 0}, {0, 1}}, [][][]int{{{0, 1, 4}, {1, 2, 4}, {2, 3, 4}}}},
		{"a triangle and the middles of its edges", [][]int{{0, 0}, {2, 0}, {0, 2}, {1, 0}, {0, 1}, {1, 1}},
			[][][]int{{{0, 3, 4}, {1, 3, 4}, {1, 4, 5}, {2, 4, 5}}, {{0, 3, 4}, {1, 3, 5}, {2, 3, 4}, {2, 3, 5}},
				{{0, 3, 4}, {1, 3, 5}, {2, 4, 5}, {3, 4, 5}}, {{0, 3, 5}, {0, 4, 5}, {1, 3, 5}, {2, 4, 5}}}},
		{"not all corners are corners of all", [][]int{{0, 0}, {4, 0}, {0, 4}, {1, 1}, {4, 4}},
			[][][]int{{{0, 1, 3}, {0, 2, 3}, {1, 2, 3}, {1, 2, 4}}, {{0, 1, 3}, {0, 2, 3}, {1, 3, 4}, {2, 3, 4}}}},
	} {
		if got, e := cells.All(c.points); e != api.OK || !sameWays(got, c.want) {
			t.Errorf("%s: cells.All(%v) = %v, %d, want %v", c.what, c.points, got, e, c.want)
		}
	}
}

// T3: as many ways as are known.
func TestAllWaysHowMany(t *testing.T) {
	for many, want := range map[int]int{3: 1, 4: 2, 5: 5, 6: 14, 7: 42} {
		if got, e := cells.All(bowl(many)); e != api.OK || len(got) != want {
			t.Errorf("%d corners: %d ways, %d, want %d", many, len(got), e, want)
		}
	}
	for _, c := range []struct {
		what   string
		points [][]int
		want   int
	}{
		// Rows of a and b points on two lines have as many as there are choices of a - 1 of a + b - 2.
		{"rows of two and three", [][]int{{0, 0}, {1, 0}, {0, 1}, {1, 1}, {2, 1}}, 3},
		{"rows of three", [][]int{{0, 0}, {1, 0}, {2, 0}, {0, 1}, {1, 1}, {2, 1}}, 6},
		{"rows of three and four", [][]int{{0, 0}, {1, 0}, {2, 0}, {0, 1}, {1, 1}, {2, 1}, {3, 1}}, 10},
		{"rows of two and five", [][]int{{0, 0}, {1, 0}, {0, 1}, {1, 1}, {2, 1}, {3, 1}, {4, 1}}, 5},
		{"a row of six", [][]int{{0, 0}, {1, 0}, {2, 0}, {3, 0}, {4, 0}, {5, 0}, {9, 1}}, 1},
		// The middle is with all six, or without some of which no two are side by side.
		{"six around one", [][]int{{1, 0}, {1, 1}, {0, 1}, {-1, 0}, {-1, -1}, {0, -1}, {0, 0}}, 1 + 6 + 9 + 2},
	} {
		if got, e := cells.All(c.points); e != api.OK || len(got) != c.want {
			t.Errorf("%s: cells.All(%v) has %d ways, %d, want %d", c.what, c.points, len(got), e, c.want)
		}
	}
}

// crosses: do two edges have a place in common that is no corner of both?
func crosses(points [][]int, e, f []int) bool {
	a, b, c, d := points[e[0]], points[e[1]], points[f[0]], points[f[1]]
	opposite := func(v, w int) bool { return v < 0 && w > 0 || v > 0 && w < 0 }
	return opposite(turnOf(a, b, c), turnOf(a, b, d)) && opposite(turnOf(c, d, a), turnOf(c, d, b))
}

// edgesOf are the edges on which no point lies but their ends.
func edgesOf(points [][]int) [][]int {
	return slices.DeleteFunc(choices(len(points), 2), func(e []int) bool {
		a, b := points[e[0]], points[e[1]]
		return slices.ContainsFunc(points, func(x []int) bool {
			return turnOf(a, b, x) == 0 && (x[0]-a[0])*(x[0]-b[0])+(x[1]-a[1])*(x[1]-b[1]) < 0
		})
	})
}

// waysByEdges are the triangles between the edges of each set of edges that don't cross,
// of which there is none more to be had.
func waysByEdges(points [][]int) [][][]int {
	edges := edgesOf(points)
	var out [][][]int
	var grow func(at int, taken [][]int)
	grow = func(at int, taken [][]int) {
		fits := func(e []int) bool {
			return !slices.ContainsFunc(taken, func(f []int) bool { return crosses(points, e, f) })
		}
		if at == len(edges) {
			if !slices.ContainsFunc(edges, func(e []int) bool { return !isOneOf(taken, e) && fits(e) }) {
				out = append(out, trianglesBetween(points, taken))
			}
			return
		}
		if fits(edges[at]) {
			grow(at+1, append(slices.Clone(taken), edges[at]))
		}
		grow(at+1, taken)
	}
	grow(0, nil)
	slices.SortFunc(out, func(a, b [][]int) int { return slices.CompareFunc(a, b, slices.Compare[[]int]) })
	return out
}

func isOneOf(lists [][]int, l []int) bool {
	return slices.ContainsFunc(lists, func(o []int) bool { return slices.Equal(l, o) })
}

// trianglesBetween are those of three of the edges that have no other point in them.
func trianglesBetween(points, edges [][]int) [][]int {
	var out [][]int
	for _, c := range choices(len(points), 3) {
		corners := cornersOfCell(points, c)
		if turnOf(corners[0], corners[1], corners[2]) == 0 {
			continue
		}
		has := slices.ContainsFunc(points, func(x []int) bool { return !isOneOf(corners, x) && placeIn(corners, x) >= 0 })
		if !has && isOneOf(edges, []int{c[0], c[1]}) && isOneOf(edges, []int{c[0], c[2]}) && isOneOf(edges, []int{c[1], c[2]}) {
			out = append(out, c)
		}
	}
	slices.SortFunc(out, slices.Compare[[]int])
	return out
}

// T3
func TestAllWaysByEdges(t *testing.T) {
	d := die(141)
	for round := range 60 {
		points := drawnFlat(&d, 3, 1+round%4)
		if len(points) == api.MaxFlat && round%6 != 0 {
			points = points[:5]
		}
		if cells.Check(points) != api.OK {
			continue
		}
		want := waysByEdges(points)
		if got, e := cells.All(points); e != api.OK || !sameWays(got, want) {
			t.Errorf("cells.All(%v) = %v, %d, want %v", points, got, e, want)
		}
	}
}

// T3: each way fills all, has each point as a corner, and has no place twice; and they are in order, each once.
func TestAllWaysAreWays(t *testing.T) {
	d := die(142)
	for round := range 80 {
		points := drawnFlat(&d, 4, 1+round%5)
		whole, _ := volume.Of(bodyOf(2, points...))
		all, e := cells.All(points)
		if e != api.OK || len(all) == 0 {
			t.Fatalf("cells.All(%v) = %v, %d", points, all, e)
		}
		for i, way := range all {
			if i > 0 && slices.CompareFunc(all[i-1], way, slices.Compare[[]int]) >= 0 {
				t.Errorf("cells.All(%v): %v is behind %v", points, way, all[i-1])
			}
			checkWay(t, points, way, whole)
		}
		for range 10 {
			x := d.list(2, 5)
			where, _ := hull.Where(bodyOf(2, points...), x)
			way := all[d.below(len(all))]
			in, inside := 0, 0
			for _, c := range way {
				if place := placeIn(cornersOfCell(points, c), x); place >= 0 {
					in++
					inside += place
				}
			}
			if in > 0 != (where <= 0) || inside > 1 || inside == 1 && in > 1 {
				t.Errorf("cells.All(%v): %v (where: %d) is in %d triangles of %v, inside %d", points, x, where, in, way, inside)
			}
		}
	}
}

func checkWay(t *testing.T, points, way [][]int, whole int) {
	t.Helper()
	much := 0
	for i, c := range way {
		m, e := volume.Cell(cornersOfCell(points, c))
		if e != api.OK || m == 0 || len(c) != 3 || c[0] >= c[1] || c[1] >= c[2] || i > 0 && slices.Compare(way[i-1], c) >= 0 {
			t.Errorf("%v: %v of %v", points, c, way)
		}
		much += m
	}
	corners := slices.Concat(way...)
	slices.Sort(corners)
	if much != whole || len(slices.Compact(corners)) != len(points) {
		t.Errorf("%v: %v has %d, all have %d", points, way, much, whole)
	}
}

// T3
func TestFlips(t *testing.T) {
	square := [][]int{{0, 0}, {2, 0}, {0, 2}, {2, 2}}
	for _, c := range []struct {
		what   string
		points [][]int
		way    [][]int
		want   [][][]int
	}{
		{"a square", square, [][]int{{0, 1, 2}, {1, 2, 3}}, [][][]int{{{0, 1, 3}, {0, 2, 3}}}},
		{"and back", square, [][]int{{0, 1, 3}, {0, 2, 3}}, [][][]int{{{0, 1, 2}, {1, 2, 3}}}},
		{"a triangle", square[:3], [][]int{{0, 1, 2}}, nil},
		{"a square and its middle", centred(), [][]int{{0, 1, 4}, {0, 2, 4}, {1, 3, 4}, {2, 3, 4}}, nil},
		{"a point on an edge", [][]int{{0, 0}, {2, 0}, {0, 2}, {1, 0}}, [][]int{{0, 2, 3}, {1, 2, 3}}, nil},
		{"five corners", bowl(5), [][]int{{0, 1, 2}, {0, 2, 3}, {0, 3, 4}},
			[][][]int{{{0, 1, 2}, {0, 2, 4}, {2, 3, 4}}, {{0, 1, 3}, {0, 3, 4}, {1, 2, 3}}}},
		{"a triangle and the middles of its edges", [][]int{{0, 0}, {2, 0}, {0, 2}, {1, 0}, {0, 1}, {1, 1}},
			[][]int{{0, 3, 4}, {1, 3, 5}, {2, 4, 5}, {3, 4, 5}},
			[][][]int{{{0, 3, 4}, {1, 3, 4}, {1, 4, 5}, {2, 4, 5}}, {{0, 3, 4}, {1, 3, 5}, {2, 3, 4}, {2, 3, 5}},
				{{0, 3, 5}, {0, 4, 5}, {1, 3, 5}, {2, 4, 5}}}},
	} {
		if got, e := cells.Flips(c.points, c.way); e != api.OK || !sameWays(got, c.want) {
			t.Errorf("%s: cells.Flips(%v, %v) = %v, %d, want %v", c.what, c.points, c.way, got, e, c.want)
		}
	}
}

// T3: what is no way, or is not told as it is to be.
func TestFlipsErrors(t *testing.T) {
	five := bowl(5)
	for _, c := range []struct {
		what string
		way  [][]int
		want api.Errno
	}{
		{"a way", [][]int{{0, 1, 2}, {0, 2, 3}, {0, 3, 4}}, api.OK},
		{"nil", nil, api.ErrForm},
		{"nothing", [][]int{}, api.ErrForm},
		{"not in order", [][]int{{0, 2, 3}, {0, 1, 2}, {0, 3, 4}}, api.ErrForm},
		{"a triangle that does not rise", [][]int{{0, 2, 1}, {0, 2, 3}, {0, 3, 4}}, api.ErrForm},
		{"one missing", [][]int{{0, 1, 2}, {0, 2, 3}}, api.ErrForm},
		{"one twice", [][]int{{0, 1, 2}, {0, 2, 3}, {0, 3, 4}, {0, 3, 4}}, api.ErrForm},
		{"one too many", [][]int{{0, 1, 2}, {0, 1, 3}, {0, 2, 3}, {0, 3, 4}}, api.ErrForm},
		{"one over another", [][]int{{0, 1, 2}, {0, 2, 3}, {1, 2, 3}}, api.ErrForm},
		{"no such point", [][]int{{0, 1, 2}, {0, 2, 3}, {0, 3, 5}}, api.ErrForm},
		{"below 0", [][]int{{-1, 1, 2}, {0, 2, 3}, {0, 3, 4}}, api.ErrForm},
		{"a corner too few", [][]int{{0, 1}, {0, 2, 3}, {0, 3, 4}}, api.ErrForm},
		{"a corner too many", [][]int{{0, 1, 2, 3}, {0, 2, 3}, {0, 3, 4}}, api.ErrForm},
		{"a triangle that is nil", [][]int{nil, {0, 2, 3}, {0, 3, 4}}, api.ErrForm},
	} {
		if got, e := cells.Flips(five, c.way); e != c.want || e != api.OK && len(got) != 0 {
			t.Errorf("%s: cells.Flips(%v, %v) = %v, %d, want error %d", c.what, five, c.way, got, e, c.want)
		}
	}
	if got, e := cells.Flips(centred(), [][]int{{0, 1, 2}, {1, 2, 3}}); e != api.ErrForm || len(got) != 0 {
		t.Errorf("the middle is left out: %v, %d", got, e)
	}
	if got, e := cells.Flips([][]int{{0, 0}, {2, 0}, {0, 2}, {1, 0}}, [][]int{{0, 1, 2}}); e != api.ErrForm || len(got) != 0 {
		t.Errorf("a point on an edge is left out: %v, %d", got, e)
	}
}

// edgesToTurn is how many edges of a way are between two triangles whose four corners
// all stand out.
func edgesToTurn(points, way [][]int) int {
	many := 0
	for i, a := range way {
		for _, b := range way[:i] {
			both := common(a, b)
			if len(both) != 2 {
				continue
			}
			rest := slices.DeleteFunc(slices.Concat(a, b), func(v int) bool { return slices.Contains(both, v) })
			if crosses(points, both, rest) {
				many++
			}
		}
	}
	return many
}

// T3, and point 3 of the whole: ways are turned into each other edge by edge, and back.
func TestFlipsReachAllWays(t *testing.T) {
	d := die(143)
	for round := range 50 {
		points := drawnFlat(&d, 4, 1+round%6)
		all, e := cells.All(points)
		if e != api.OK || len(all) == 0 {
			t.Fatalf("cells.All(%v) = %v, %d", points, all, e)
		}
		number := func(way [][]int) int {
			return slices.IndexFunc(all, func(o [][]int) bool { return alike(way, o) })
		}
		next := make([][]int, len(all))
		for i, way := range all {
			flips, e := cells.Flips(points, way)
			if e != api.OK || len(flips) != edgesToTurn(points, way) {
				t.Errorf("cells.Flips(%v, %v) = %v, %d, want %d of them", points, way, flips, e, edgesToTurn(points, way))
			}
			for _, other := range flips {
				next[i] = append(next[i], number(other))
			}
			if !slices.IsSorted(next[i]) || slices.Contains(next[i], -1) || slices.Contains(next[i], i) {
				t.Errorf("cells.Flips(%v, %v) = %v: they are numbers %v of all", points, way, flips, next[i])
			}
		}
		reached := []int{0}
		for at := 0; at < len(reached); at++ {
			for _, other := range next[reached[at]] {
				if !slices.Contains(next[other], reached[at]) {
					t.Errorf("%v: there is no flip back from %v to %v", points, all[other], all[reached[at]])
				}
				if !slices.Contains(reached, other) {
					reached = append(reached, other)
				}
			}
		}
		if len(reached) != len(all) {
			t.Errorf("%v: %d ways, of which the first one reaches %d", points, len(all), len(reached))
		}
	}
}

// T3: of corners alone, each edge within can be turned.
func TestFlipsOfCorners(t *testing.T) {
	for many := 3; many <= api.MaxFlat; many++ {
		all, _ := cells.All(bowl(many))
		for _, way := range all {
			if got, e := cells.Flips(bowl(many), way); e != api.OK || len(got) != many-3 {
				t.Errorf("cells.Flips(%v, %v) = %v, %d", bowl(many), way, got, e)
			}
		}
	}
}

// T3: the order in which the points stand says nothing but their numbers.
func TestAllWaysInAnotherOrder(t *testing.T) {
	d := die(144)
	for range 40 {
		points := drawnFlat(&d, 4, 3)
		order := shuffled(&d, len(points))
		all, _ := cells.All(cornersOfCell(points, order))
		for _, way := range all {
			for i, c := range way {
				way[i] = []int{order[c[0]], order[c[1]], order[c[2]]}
				slices.Sort(way[i])
			}
			slices.SortFunc(way, slices.Compare[[]int])
		}
		slices.SortFunc(all, func(a, b [][]int) int { return slices.CompareFunc(a, b, slices.Compare[[]int]) })
		if want, e := cells.All(points); e != api.OK || !sameWays(all, want) {
			t.Errorf("cells.All(%v) = %v, %d; in the order %v: %v", points, want, e, order, all)
		}
	}
}

// Z2
func TestFlipsLists(t *testing.T) {
	was := [][]int{{0, 1, 2}, {0, 2, 3}, {0, 3, 4}}
	points, way := roomyLists(bowl(5)), roomyLists(was)
	all, e := cells.All(points)
	flips, f := cells.Flips(points, way)
	if e != api.OK || f != api.OK || len(all) != 5 || len(flips) != 2 {
		t.Errorf("cells.All, cells.Flips: %v, %d; %v, %d", all, e, flips, f)
	}
	if !untouchedLists(points, bowl(5)) || !untouchedLists(way, was) {
		t.Errorf("%v, %v", points, way)
	}
	ways := slices.Concat(all, flips)
	if !apart(append(ways, points, way)...) || !apart(slices.Concat(append(ways, points, way)...)...) || !apart(all, flips) {
		t.Error("lists share memory")
	}
}
