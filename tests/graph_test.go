package tests

import (
	"math"
	"slices"
	"testing"

	"facet/api"
	"facet/matroid"
)

// M4
func TestMatroidGraph(t *testing.T) {
	for _, c := range []struct {
		what  string
		nodes int
		edges [][2]int
		want  api.Matroid
	}{
		{"no edges", 1, nil, matroidOf(0, 0)},
		{"no edges of seven nodes", 7, [][2]int{}, matroidOf(0, 0)},
		{"one edge", 2, [][2]int{{1, 0}}, matroidOf(1, 1)},
		{"from a node to itself", 1, [][2]int{{0, 0}}, matroidOf(1, 0)},
		{"two between the same", 2, [][2]int{{0, 1}, {1, 0}}, matroidOf(2, 1, 2)},
		{"a triangle", 3, [][2]int{{0, 1}, {1, 2}, {2, 0}}, matroidOf(3, 3, 5, 6)},
		{"two apart", 4, [][2]int{{0, 1}, {2, 3}}, matroidOf(2, 3)},
		{"one to itself, and two the same", 3, [][2]int{{2, 2}, {0, 2}, {2, 0}, {1, 2}}, matroidOf(4, 10, 12)},
		{"eight, all to themselves", 7, slices.Repeat([][2]int{{6, 6}}, 8), matroidOf(8, 0)},
		{"eight, all the same", 2, slices.Repeat([][2]int{{0, 1}}, 8), uniform(8, 1)},
		{"a ring of seven", 7, [][2]int{{0, 1}, {1, 2}, {2, 3}, {3, 4}, {4, 5}, {5, 6}, {6, 0}}, uniform(7, 6)},
	} {
		if got, e := matroid.Graph(c.nodes, c.edges); e != api.OK || !sameMatroid(got, c.want) {
			t.Errorf("%s: matroid.Graph(%d, %v) = %v, %d, want %v", c.what, c.nodes, c.edges, got, e, c.want)
		}
	}
	got, e := matroid.Graph(4, [][2]int{{0, 1}, {1, 2}, {2, 3}, {3, 0}, {0, 2}})
	if rank, _ := matroid.Rank(got, 31); e != api.OK || got.N != 5 || rank != 3 || len(got.Bases) != 8 {
		t.Errorf("the document's: %v, %d", got, e)
	}
	if all, e := matroid.Graph(4, [][2]int{{0, 1}, {0, 2}, {0, 3}, {1, 2}, {1, 3}, {2, 3}}); e != api.OK || len(all.Bases) != 16 {
		t.Errorf("all edges of four nodes: %v, %d", all, e)
	}
}

// M4: each error, and which is told first.
func TestMatroidGraphErrors(t *testing.T) {
	for _, c := range []struct {
		what  string
		nodes int
		edges [][2]int
		want  api.Errno
	}{
		{"no nodes", 0, nil, api.ErrLimit},
		{"below no nodes", -1, nil, api.ErrLimit},
		{"the most nodes", 7, [][2]int{{6, 0}}, api.OK},
		{"a node too many", 8, nil, api.ErrLimit},
		{"the greatest int", math.MaxInt, nil, api.ErrLimit},
		{"the least int", math.MinInt, nil, api.ErrLimit},
		{"the most edges", 2, slices.Repeat([][2]int{{0, 1}}, 8), api.OK},
		{"an edge too many", 2, slices.Repeat([][2]int{{0, 1}}, 9), api.ErrLimit},
		{"an edge too many ahead of no node", 2, slices.Repeat([][2]int{{0, 2}}, 9), api.ErrLimit},
		{"no nodes ahead of no node", 0, [][2]int{{0, 0}}, api.ErrLimit},
		{"the first end above", 3, [][2]int{{3, 0}}, api.ErrPlace},
		{"the second end above", 3, [][2]int{{0, 3}}, api.ErrPlace},
		{"the first end below", 3, [][2]int{{-1, 0}}, api.ErrPlace},
		{"the second end below", 3, [][2]int{{0, -1}}, api.ErrPlace},
		{"the last edge", 3, [][2]int{{0, 1}, {1, 2}, {2, 3}}, api.ErrPlace},
		{"the greatest int as an end", 3, [][2]int{{0, math.MaxInt}}, api.ErrPlace},
		{"the least int as an end", 3, [][2]int{{math.MinInt, 0}}, api.ErrPlace},
	} {
		if got, e := matroid.Graph(c.nodes, c.edges); e != c.want || e != api.OK && !noMatroid(got) {
			t.Errorf("%s: matroid.Graph(%d, %v) = %v, %d, want error %d", c.what, c.nodes, c.edges, got, e, c.want)
		}
	}
}

// greatestFree are the free sets that are no part of another one.
func greatestFree(n int, free func(things []int) bool) api.Matroid {
	isFree := func(s int) bool {
		var things []int
		for i := range n {
			if s>>i&1 == 1 {
				things = append(things, i)
			}
		}
		return free(things)
	}
	m := matroidOf(n)
	for s := range 1 << n {
		isBasis := isFree(s)
		for i := range n {
			isBasis = isBasis && (s>>i&1 == 1 || !isFree(s+1<<i))
		}
		if isBasis {
			m.Bases = append(m.Bases, s)
		}
	}
	return m
}

// M4
func TestMatroidGraphByWords(t *testing.T) {
	d := die(176)
	for range 100 {
		nodes := 1 + d.below(7)
		edges := drawnEdges(&d, nodes, d.below(9))
		want := greatestFree(len(edges), func(things []int) bool {
			var some [][2]int
			for _, i := range things {
				some = append(some, edges[i])
			}
			return noWayAround(nodes, some)
		})
		if got, e := matroid.Graph(nodes, edges); e != api.OK || !sameMatroid(got, want) || matroid.Check(got) != api.OK {
			t.Errorf("matroid.Graph(%d, %v) = %v, %d, want %v", nodes, edges, got, e, want)
		}
	}
}

// M4
func TestMatroidVectors(t *testing.T) {
	square := [][]int{{1, 0}, {0, 1}, {1, 1}, {1, 2}}
	signs := [][]int{{1, 1, 0}, {0, 1, 1}, {1, 0, 1}}
	var units [][]int
	for i := range 8 {
		units = append(units, make([]int, 8))
		units[i][i] = 6
	}
	for _, c := range []struct {
		what    string
		p       int
		columns [][]int
		want    api.Matroid
	}{
		{"no columns", 2, nil, matroidOf(0, 0)},
		{"no columns, not nil", 7, [][]int{}, matroidOf(0, 0)},
		{"one", 2, [][]int{{1}}, matroidOf(1, 1)},
		{"noughts", 5, [][]int{{0, 0}}, matroidOf(1, 0)},
		{"noughts and another one", 5, [][]int{{0, 0}, {0, 3}}, matroidOf(2, 2)},
		{"multiples", 7, [][]int{{2, 3}, {4, 6}, {1, 5}, {3, 3}}, matroidOf(4, 9, 10, 12)},
		{"all pairs", 3, square, uniform(4, 2)},
		{"all pairs, modulo 5", 5, square, uniform(4, 2)},
		{"a sum of two, modulo 2", 2, signs, matroidOf(3, 3, 5, 6)},
		{"none of two, modulo 3", 3, signs, matroidOf(3, 7)},
		{"all units of eight", 7, units, matroidOf(8, 255)},
		{"eight alike", 7, repeat([]int{0, 4, 1, 0, 0, 0, 0, 6}, 8), uniform(8, 1)},
		{"seven points", 2, [][]int{{1, 0, 0}, {0, 1, 0}, {1, 1, 0}, {0, 0, 1}, {1, 0, 1}, {0, 1, 1}, {1, 1, 1}}, sevenPoints()},
	} {
		if got, e := matroid.Vectors(c.p, c.columns); e != api.OK || !sameMatroid(got, c.want) {
			t.Errorf("%s: matroid.Vectors(%d, %v) = %v, %d, want %v", c.what, c.p, c.columns, got, e, c.want)
		}
	}
}

// M4: each error, and which is told first.
func TestMatroidVectorsErrors(t *testing.T) {
	for _, c := range []struct {
		what    string
		p       int
		columns [][]int
		want    api.Errno
	}{
		{"2", 2, [][]int{{1}}, api.OK},
		{"3", 3, [][]int{{2}}, api.OK},
		{"5", 5, [][]int{{4}}, api.OK},
		{"7", 7, [][]int{{6}}, api.OK},
		{"no columns of no kind", 4, nil, api.ErrKind},
		{"the kind ahead of too many", 1, repeat([]int{9}, 9), api.ErrKind},
		{"the kind ahead of the form", 0, [][]int{nil}, api.ErrKind},
		{"the most columns", 2, repeat([]int{1}, 8), api.OK},
		{"a column too many", 2, repeat([]int{1}, 9), api.ErrLimit},
		{"a column too many, of no form", 2, repeat(nil, 9), api.ErrLimit},
		{"no numbers", 2, [][]int{{}}, api.ErrForm},
		{"no numbers, nil", 2, [][]int{nil, nil}, api.ErrForm},
		{"the most numbers", 2, [][]int{make([]int, 8)}, api.OK},
		{"a number too many", 2, [][]int{make([]int, 9)}, api.ErrForm},
		{"a number too many, and one above", 2, repeat(slices.Repeat([]int{2}, 9), 2), api.ErrForm},
		{"shorter than the first", 2, [][]int{{1, 0}, {1}}, api.ErrForm},
		{"longer than the first", 2, [][]int{{1}, {1, 0}}, api.ErrForm},
		{"the last is nil", 2, [][]int{{1}, {1}, nil}, api.ErrForm},
		{"p itself", 3, [][]int{{3}}, api.ErrValue},
		{"p itself, behind others", 7, [][]int{{6, 0}, {6, 7}}, api.ErrValue},
		{"below 0", 5, [][]int{{1, -1}}, api.ErrValue},
		{"the greatest int", 5, [][]int{{math.MaxInt}}, api.ErrValue},
		{"the least int", 5, [][]int{{math.MinInt}}, api.ErrValue},
		{"a column's form ahead of its value", 2, [][]int{{1, 0}, {2}}, api.ErrForm},
		{"the first one's value ahead of the second's form", 2, [][]int{{1, 2}, {1}}, api.ErrValue},
		{"the second one's form ahead of the third's value", 2, [][]int{{1}, {}, {2}}, api.ErrForm},
	} {
		if got, e := matroid.Vectors(c.p, c.columns); e != c.want || e != api.OK && !noMatroid(got) {
			t.Errorf("%s: matroid.Vectors(%d, %v) = %v, %d, want error %d", c.what, c.p, c.columns, got, e, c.want)
		}
	}
	for _, p := range []int{math.MinInt, -7, -3, -2, -1, 0, 1, 4, 6, 8, 9, 11, 13, 1<<32 + 2, math.MaxInt} {
		if got, e := matroid.Vectors(p, [][]int{{1}}); e != api.ErrKind || !noMatroid(got) {
			t.Errorf("matroid.Vectors(%d, ..) = %v, %d", p, got, e)
		}
	}
}

// sumsModulo are all sums of multiples of the columns, modulo p.
func sumsModulo(p, long int, columns [][]int) map[[3]int]int {
	all := map[[3]int]int{{}: 1}
	for _, column := range columns {
		more := map[[3]int]int{}
		for x := range all {
			for by := range p {
				y := x
				for i := range long {
					y[i] = (y[i] + by*column[i]) % p
				}
				more[y]++
			}
		}
		all = more
	}
	return all
}

// M4
func TestMatroidVectorsByWords(t *testing.T) {
	d := die(177)
	for round := range 48 {
		p, long := []int{2, 3, 5, 7}[round%4], 1+d.below(3)
		columns := drawnColumns(&d, p, d.below(7), long)
		want := greatestFree(len(columns), func(things []int) bool {
			for _, i := range things {
				var others [][]int
				for _, k := range things {
					if k != i {
						others = append(others, columns[k])
					}
				}
				var x [3]int
				copy(x[:], columns[i])
				if sumsModulo(p, long, others)[x] > 0 {
					return false
				}
			}
			return true
		})
		if got, e := matroid.Vectors(p, columns); e != api.OK || !sameMatroid(got, want) || matroid.Check(got) != api.OK {
			t.Errorf("matroid.Vectors(%d, %v) = %v, %d, want %v", p, columns, got, e, want)
		}
	}
}

// The whole: a graph's edges hang together as columns do that have 1 where an edge begins and -1 where it ends, whatever p is.
func TestMatroidGraphIsOfVectors(t *testing.T) {
	d := die(178)
	for range 60 {
		nodes := 1 + d.below(7)
		edges := drawnEdges(&d, nodes, d.below(9))
		want, e := matroid.Graph(nodes, edges)
		for _, p := range []int{2, 3, 5, 7} {
			var columns [][]int
			for _, edge := range edges {
				column := make([]int, nodes)
				column[edge[0]]++
				column[edge[1]] = (column[edge[1]] + p - 1) % p
				columns = append(columns, column)
			}
			if got, f := matroid.Vectors(p, columns); e != api.OK || f != api.OK || !sameMatroid(got, want) {
				t.Errorf("matroid.Vectors(%d, %v) = %v, %d; matroid.Graph(%d, %v) = %v, %d", p, columns, got, f, nodes, edges, want, e)
			}
		}
	}
}

// The whole: to be without an edge is to take it out of the graph; to have it is to make its ends one.
func TestMatroidGraphMinors(t *testing.T) {
	d := die(179)
	for range 60 {
		nodes := 2 + d.below(6)
		edges := drawnEdges(&d, nodes, 1+d.below(8))
		m, _ := matroid.Graph(nodes, edges)
		for i, edge := range edges {
			others := slices.Delete(slices.Clone(edges), i, i+1)
			want, _ := matroid.Graph(nodes, others)
			if got, e := matroid.Delete(m, i); e != api.OK || !sameMatroid(got, want) {
				t.Errorf("matroid.Delete(%v, %d) = %v, %d, want %v", m, i, got, e, want)
			}
			for k := range others {
				for end := range 2 {
					if others[k][end] == edge[0] {
						others[k][end] = edge[1]
					}
				}
			}
			want, _ = matroid.Graph(nodes, others)
			if got, e := matroid.Contract(m, i); e != api.OK || !sameMatroid(got, want) {
				t.Errorf("matroid.Contract(%v, %d) = %v, %d, want %v", m, i, got, e, want)
			}
		}
	}
}

// Z2
func TestMatroidMadeLists(t *testing.T) {
	was := [][]int{{1, 0, 2}, {2, 0, 1}, {0, 1, 1}, {1, 1, 0}}
	columns := roomyLists(was)
	edges := append([][2]int{{0, 1}, {1, 2}, {2, 0}}, [2]int{mark, mark})[:3]
	kept := slices.Clone(edges[:4])
	of, e := matroid.Vectors(3, columns)
	more, _ := matroid.Vectors(3, columns)
	graph, f := matroid.Graph(3, edges)
	again, _ := matroid.Graph(3, edges)
	if e != api.OK || f != api.OK || !sameMatroid(of, more) || !sameMatroid(graph, again) {
		t.Errorf("%v, %d, then %v; %v, %d, then %v", of, e, more, graph, f, again)
	}
	if !untouchedLists(columns, was) || !slices.Equal(edges[:4], kept) {
		t.Errorf("%v, %v", columns, edges)
	}
	if !apart(append(slices.Clone(columns), of.Bases, more.Bases, graph.Bases, again.Bases)...) {
		t.Error("lists share memory")
	}
}
