package tests

import (
	"math"
	"slices"
	"testing"

	"facet/api"
	"facet/exact"
	"facet/face"
	"facet/hull"
	"facet/volume"
)

// shuffled has the numbers 0 to n - 1 in an order that is drawn.
func shuffled(d *die, n int) []int {
	var order []int
	for i := range n {
		order = slices.Insert(order, d.below(i+1), i)
	}
	return order
}

// V1
func TestCells(t *testing.T) {
	square, segment, box := cube(2, 0, 2), bodyOf(1, []int{7}, []int{-3}, []int{0}), cube(3, 0, 1)
	for _, c := range []struct {
		what  string
		p     api.Polytope
		order []int
		want  [][]int
	}{
		{"the square", square, []int{3, 0, 1, 2}, [][]int{{0, 1, 3}, {0, 2, 3}}},
		{"the square, along the other line", square, []int{1, 0, 2, 3}, [][]int{{0, 1, 2}, {1, 2, 3}}},
		{"the square, where the first alone counts", square, []int{2, 3, 1, 0}, [][]int{{0, 1, 2}, {1, 2, 3}}},
		{"a segment", segment, []int{0, 1}, [][]int{{0, 1}}},
		{"a segment, the other way", segment, []int{1, 0}, [][]int{{0, 1}}},
		{"a simplex of four", bodyOf(4, simplex(4, 1)...), []int{4, 2, 0, 1, 3}, [][]int{{0, 1, 2, 3, 4}}},
		{"a cube, as its corners stand", box, []int{0, 1, 2, 3, 4, 5, 6, 7},
			[][]int{{0, 1, 3, 7}, {0, 1, 5, 7}, {0, 2, 3, 7}, {0, 2, 6, 7}, {0, 4, 5, 7}, {0, 4, 6, 7}}},
		{"a cube, from another side's corner on", box, []int{0, 3, 5, 6, 1, 2, 4, 7},
			[][]int{{0, 1, 3, 5}, {0, 2, 3, 6}, {0, 3, 5, 7}, {0, 3, 6, 7}, {0, 4, 5, 6}, {0, 5, 6, 7}}},
		{"a roof, from its top", roof(), []int{2, 0, 1, 3, 4}, [][]int{{0, 1, 2, 4}, {0, 2, 3, 4}}},
		{"a roof, from below", roof(), []int{1, 2, 0, 3, 4}, [][]int{{0, 1, 2, 3}, {1, 2, 3, 4}}},
	} {
		if got, e := volume.Cells(c.p, c.order); e != api.OK || !alike(got, c.want) {
			t.Errorf("%s: volume.Cells(%v, %v) = %v, %d, want %v", c.what, c.p, c.order, got, e, c.want)
		}
	}
}

// V1: each error, and which is told first.
func TestCellsErrors(t *testing.T) {
	square, flat := cube(2, 0, 2), bodyOf(2, []int{0, 0}, []int{1, 1})
	crowd := api.Polytope{Dim: 2, Points: append(cube(2, 0, 2).Points, []int{1, 1}, []int{0, 1}, []int{2, 2})}
	for _, c := range []struct {
		what  string
		p     api.Polytope
		order []int
		want  api.Errno
	}{
		{"no order", square, nil, api.ErrCount},
		{"an empty order", square, []int{}, api.ErrCount},
		{"one too few", square, []int{0, 1, 2}, api.ErrCount},
		{"one too many", square, []int{0, 1, 2, 3, 4}, api.ErrCount},
		{"as many as corners", crowd, []int{0, 1, 2, 3}, api.OK},
		{"as many as points", crowd, []int{0, 1, 2, 3, 4, 5, 6}, api.ErrCount},
		{"too few ahead of no place", square, []int{9, 9, 9}, api.ErrCount},
		{"a number above", square, []int{0, 1, 2, 4}, api.ErrPlace},
		{"a number below", square, []int{-1, 1, 2, 3}, api.ErrPlace},
		{"a point's number that is no corner's", crowd, []int{0, 1, 2, 5}, api.ErrPlace},
		{"the greatest int", square, []int{0, 1, 2, math.MaxInt}, api.ErrPlace},
		{"the least int", square, []int{0, 1, 2, math.MinInt}, api.ErrPlace},
		{"64 more", square, []int{0, 1, 2, 64 + 3}, api.ErrPlace},
		{"a number twice", square, []int{0, 1, 2, 0}, api.ErrTwice},
		{"a number twice at once", square, []int{3, 3, 2, 0}, api.ErrTwice},
		{"twice ahead of no place", square, []int{1, 1, 4, 0}, api.ErrTwice},
		{"no place ahead of twice", square, []int{1, 4, 1, 0}, api.ErrPlace},
		{"no place, twice", square, []int{7, 7, 0, 1}, api.ErrPlace},
		{"flat ahead of all of the order", flat, nil, api.ErrFlat},
		{"flat ahead of no place", flat, []int{5, 5}, api.ErrFlat},
	} {
		if got, e := volume.Cells(c.p, c.order); e != c.want || e != api.OK && len(got) != 0 {
			t.Errorf("%s: volume.Cells(%v, %v) = %v, %d, want error %d", c.what, c.p, c.order, got, e, c.want)
		}
	}
	for _, c := range hullCheckCases() {
		if c.want == api.OK {
			continue
		}
		for _, order := range [][]int{nil, {0}, {0, 1}, {0, 1, 2}, {9, 9}} {
			if got, e := volume.Cells(c.p, order); e != c.want || len(got) != 0 {
				t.Errorf("%s: volume.Cells(%v, %v) = %v, %d, want error %d", c.what, c.p, order, got, e, c.want)
			}
		}
		if got, e := volume.Of(c.p); e != c.want || got != 0 {
			t.Errorf("%s: volume.Of(%v) = %d, %d, want error %d", c.what, c.p, got, e, c.want)
		}
	}
}

// cellsByWords goes by V1, face by face, from the whole down.
func cellsByWords(lattice [][][]int, level int, f, order []int) [][]int {
	if len(f) == 1 {
		return [][]int{f}
	}
	first := order[slices.IndexFunc(order, func(v int) bool { return slices.Contains(f, v) })]
	var out [][]int
	for _, g := range lattice[level-1] {
		if !isIn(g, f) || slices.Contains(g, first) {
			continue
		}
		for _, c := range cellsByWords(lattice, level-1, g, order) {
			cell := append(slices.Clone(c), first)
			slices.Sort(cell)
			out = append(out, cell)
		}
	}
	slices.SortFunc(out, slices.Compare[[]int])
	return out
}

// V1
func TestCellsByWords(t *testing.T) {
	d := die(81)
	for _, p := range someBodies(82) {
		lattice, _ := face.Lattice(p)
		corners := len(lattice[1])
		if corners > 20 {
			continue
		}
		for range 3 {
			order := shuffled(&d, corners)
			want := cellsByWords(lattice, p.Dim+1, lattice[p.Dim+1][0], order)
			if got, e := volume.Cells(p, order); e != api.OK || !alike(got, want) {
				t.Errorf("volume.Cells(%v, %v) = %v, %d, want %v", p, order, got, e, want)
			}
		}
	}
}

func cornersOfCell(corners [][]int, cell []int) [][]int {
	var out [][]int
	for _, i := range cell {
		out = append(out, corners[i])
	}
	return out
}

// placeIn: is x in a simplex that is not flat (0: on its boundary; 1: inside; -1: outside)?
func placeIn(simplex [][]int, x []int) int {
	whole := exact.Det(exact.Differences(simplex))
	least := 1
	for i := range simplex {
		with := slices.Clone(simplex)
		with[i] = x
		part := exact.Det(exact.Differences(with))
		if whole < 0 {
			part = -part
		}
		least = min(least, part)
	}
	return max(least, -1)
}

// V1: cells fill the polytope: each place of it is in one, and inside at most one.
func TestCellsFill(t *testing.T) {
	d := die(83)
	for round := range 100 {
		p := drawn(&d, 1+round%4)
		corners, _ := hull.Corners(p)
		cells, e := volume.Cells(p, shuffled(&d, len(corners)))
		if e != api.OK {
			t.Fatalf("volume.Cells(%v): error %d", p, e)
		}
		for range 60 {
			x := d.list(p.Dim, 2)
			where, _ := hull.Where(p, x)
			in, inside := 0, 0
			for _, cell := range cells {
				if place := placeIn(cornersOfCell(corners, cell), x); place >= 0 {
					in++
					inside += place
				}
			}
			if in > 0 != (where <= 0) || inside > 1 || inside == 1 && in > 1 {
				t.Errorf("%v: %v (where: %d) is in %d of %v, inside %d", p, x, where, in, cells, inside)
			}
		}
	}
}

// V2, and point 3 of the whole: however it is cut, the cells have all of it together, and none is flat.
func TestCellsHaveAll(t *testing.T) {
	d := die(84)
	for _, p := range someBodies(85) {
		corners, _ := hull.Corners(p)
		want, e := volume.Of(p)
		if e != api.OK || want <= 0 {
			t.Fatalf("volume.Of(%v) = %d, %d", p, want, e)
		}
		for range 2 {
			order, sum := shuffled(&d, len(corners)), 0
			cells, _ := volume.Cells(p, order)
			for _, cell := range cells {
				much, e := volume.Cell(cornersOfCell(corners, cell))
				if e != api.OK || much <= 0 || !slices.IsSorted(cell) || len(cell) != p.Dim+1 {
					t.Errorf("%v, %v: the cell %v has %d, %d", p, order, cell, much, e)
				}
				sum += much
			}
			if sum != want {
				t.Errorf("%v, %v: the cells have %d, volume.Of has %d", p, order, sum, want)
			}
		}
	}
}

// V2
func TestVolumeOf(t *testing.T) {
	for _, c := range []struct {
		what string
		p    api.Polytope
		want int
	}{
		{"the square", bodyOf(2, append(cube(2, 0, 2).Points, []int{1, 1})...), 8},
		{"a segment", bodyOf(1, []int{7}, []int{-3}, []int{0}, []int{7}), 10},
		{"the longest segment", bodyOf(1, []int{-100}, []int{100}), 200},
		{"a triangle", bodyOf(2, []int{1, 0}, []int{0, 1}, []int{-1, -1}), 3},
		{"a cube of edges 1", cube(3, 0, 1), 6},
		{"a cube of four", cube(4, 4, 5), 24},
		{"the greatest cube", cube(4, -100, 100), 24 * 200 * 200 * 200 * 200},
		{"the least simplex of four", bodyOf(4, simplex(4, 1)...), 1},
		{"a cross of three", cross(3, 1), 8},
		{"a cross of four", cross(4, 100), 16 * 100 * 100 * 100 * 100},
		{"a roof", roof(), 64},
		{"a pyramid over a cube", pyramid(cube(3, 0, 1)), 6},
		{"all sides octahedra", twentyFour(), 24 * 8},
	} {
		if got, e := volume.Of(c.p); e != api.OK || got != c.want {
			t.Errorf("%s: volume.Of(%v) = %d, %d, want %d", c.what, c.p, got, e, c.want)
		}
	}
}

// V2: what is moved, turned over or sheared has as much; twice as wide, 2^Dim times as much.
func TestVolumeTurned(t *testing.T) {
	d := die(86)
	for round := range 60 {
		dim := 1 + round%4
		p := api.Polytope{Dim: dim, Points: append(simplex(dim, -5), d.lists(5, dim, 20)...)}
		want, _ := volume.Of(p)
		moved, wider := bodyOf(dim), bodyOf(dim)
		way := d.list(dim, 50)
		for _, x := range p.Points {
			y, z := slices.Clone(x), slices.Clone(x)
			for i := range x {
				y[i] += way[i]
				z[i] *= 2
			}
			moved.Points, wider.Points = append(moved.Points, y), append(wider.Points, z)
		}
		for _, q := range []api.Polytope{moved, turnedOver(p), sheared(p)} {
			if got, e := volume.Of(q); e != api.OK || got != want {
				t.Errorf("volume.Of(%v) = %d, %d, of %v it is %d", q, got, e, p, want)
			}
		}
		if got, e := volume.Of(wider); e != api.OK || got != want<<dim {
			t.Errorf("volume.Of(%v) = %d, %d, of %v it is %d", wider, got, e, p, want)
		}
	}
}

// V2
func TestVolumeCell(t *testing.T) {
	for _, c := range []struct {
		what   string
		points [][]int
		want   int
	}{
		{"a segment", [][]int{{3}, {7}}, 4},
		{"a segment, the other way", [][]int{{7}, {3}}, 4},
		{"a segment of no length", [][]int{{7}, {7}}, 0},
		{"the longest segment", [][]int{{-100}, {100}}, 200},
		{"a triangle", [][]int{{0, 0}, {3, 0}, {0, 2}}, 6},
		{"a triangle, turned over", [][]int{{3, 0}, {0, 0}, {0, 2}}, 6},
		{"three on a line", [][]int{{0, 1}, {1, 2}, {-5, -4}}, 0},
		{"a point twice", [][]int{{0, 1}, {1, 2}, {0, 1}}, 0},
		{"the greatest triangle", [][]int{{-100, -100}, {100, -100}, {-100, 100}}, 40000},
		{"a simplex of three", [][]int{{1, 1, 1}, {2, 1, 1}, {1, 3, 1}, {1, 1, 6}}, 10},
		{"four on a plane", [][]int{{1, 0, 0}, {0, 1, 0}, {0, 0, 1}, {2, -1, 0}}, 0},
		{"the least simplex of four", simplex(4, 1), 1},
		{"three times a corner of the greatest cube", [][]int{{-100, -100, -100, -100}, {-100, 100, 100, 100}, {100, -100, 100, 100},
			{100, 100, -100, 100}, {100, 100, 100, -100}}, 3 * 200 * 200 * 200 * 200},
	} {
		if got, e := volume.Cell(c.points); e != api.OK || got != c.want {
			t.Errorf("%s: volume.Cell(%v) = %d, %d, want %d", c.what, c.points, got, e, c.want)
		}
	}
}

// V2: it does not hang on the order of the points.
func TestVolumeCellInAnyOrder(t *testing.T) {
	d := die(87)
	for round := range 80 {
		dim := 1 + round%4
		points := d.lists(dim+1, dim, api.MaxCoord)
		want, e := volume.Cell(points)
		other := cornersOfCell(points, shuffled(&d, dim+1))
		got, f := volume.Cell(other)
		if e != api.OK || f != api.OK || got != want || got < 0 {
			t.Errorf("volume.Cell(%v) = %d, %d, in the order of %v it is %d, %d", points, want, e, other, got, f)
		}
		if p := (api.Polytope{Dim: dim, Points: points}); want > 0 {
			if of, e := volume.Of(p); of != want || e != api.OK {
				t.Errorf("volume.Of(%v) = %d, %d, want %d", p, of, e, want)
			}
		}
	}
}

// V2: each error, and which is told first.
func TestVolumeCellErrors(t *testing.T) {
	for _, c := range []struct {
		what   string
		points [][]int
		want   api.Errno
	}{
		{"no points", nil, api.ErrCount},
		{"an empty list", [][]int{}, api.ErrCount},
		{"one point of no numbers", [][]int{{}}, api.ErrCount},
		{"one point", [][]int{{1}}, api.ErrCount},
		{"two points", [][]int{{1}, {2}}, api.OK},
		{"MaxDim + 1 points", simplex(4, 1), api.OK},
		{"one more", repeat([]int{0, 0, 0, 0, 0}, 6), api.ErrCount},
		{"one more, of no form", repeat([]int{101}, 6), api.ErrCount},
		{"one number too few", [][]int{{0, 0}, {1}, {0, 1}}, api.ErrForm},
		{"one number too many", [][]int{{0, 0}, {1, 0}, {0, 1, 0}}, api.ErrForm},
		{"a list that is nil", [][]int{nil, {1}}, api.ErrForm},
		{"as many numbers as points", [][]int{{0, 0}, {1, 1}}, api.ErrForm},
		{"numbers at the bound", [][]int{{-100}, {100}}, api.OK},
		{"above it", [][]int{{0}, {101}}, api.ErrValue},
		{"below it", [][]int{{-101}, {0}}, api.ErrValue},
		{"the least int", [][]int{{math.MinInt}, {0}}, api.ErrValue},
		{"the greatest int", [][]int{{0}, {math.MaxInt}}, api.ErrValue},
		{"a point's form ahead of its value", [][]int{{101, 0}, {0}}, api.ErrForm},
		{"the first one's value ahead of the second's form", [][]int{{101}, {0, 0}}, api.ErrValue},
		{"the first one's form ahead of the second's value", [][]int{{0, 0}, {101}}, api.ErrForm},
		{"a value where it is flat", [][]int{{101}, {101}}, api.ErrValue},
	} {
		if got, e := volume.Cell(c.points); e != c.want || e != api.OK && got != 0 {
			t.Errorf("%s: volume.Cell(%v) = %d, %d, want error %d", c.what, c.points, got, e, c.want)
		}
	}
}

// V1, V2: the most faces that there may be, and the most corners on a side.
func TestVolumeCrowded(t *testing.T) {
	p := crowded()
	order := shuffled(new(die), api.MaxPoints)
	cells, e := volume.Cells(p, order)
	sides, _ := hull.Rows(p)
	// All sides are simplices, and 42 = 252 4 / 24 of them are at each corner, as all corners are alike.
	if e != api.OK || len(sides) != 252 || len(cells) != 210 {
		t.Errorf("%d sides, %d cells, %d", len(sides), len(cells), e)
	}
	wide := bodyOf(4)
	for i := range 11 {
		wide.Points = append(wide.Points, []int{0, i, i * i, 0}, []int{0, i, i * i, 1})
	}
	wide.Points = append(wide.Points, []int{5, 0, 3, 0}, []int{-5, 0, 7, 1})
	sum := 0
	corners, _ := hull.Corners(wide)
	cells, e = volume.Cells(wide, shuffled(new(die), len(corners)))
	for _, cell := range cells {
		much, _ := volume.Cell(cornersOfCell(corners, cell))
		sum += much
	}
	if want, f := volume.Of(wide); e != api.OK || f != api.OK || sum != want || sum == 0 {
		t.Errorf("%d corners: cells have %d, %d, volume.Of is %d, %d", len(corners), sum, e, want, f)
	}
}

// Z2
func TestVolumeLists(t *testing.T) {
	points, order := roof().Points, roomy([]int{1, 2, 0, 3, 4})
	p := api.Polytope{Dim: 3, Points: roomyLists(points)}
	l, e := volume.Cells(p, order)
	again, _ := volume.Cells(p, order)
	if e != api.OK || len(l) != 2 || !untouchedLists(p.Points, points) || !untouched(order, []int{1, 2, 0, 3, 4}) {
		t.Errorf("volume.Cells(%v, %v) = %v, %d", p, order, l, e)
	}
	if !apart(p.Points, l, again) || !apart(append(slices.Concat(p.Points, l, again), order)...) {
		t.Error("lists share memory")
	}
	if _, e := volume.Of(p); e != api.OK || !untouchedLists(p.Points, points) {
		t.Errorf("volume.Of(%v): %d", p, e)
	}
	cell := roomyLists(simplex(3, 2))
	if got, e := volume.Cell(cell); got != 8 || e != api.OK || !untouchedLists(cell, simplex(3, 2)) {
		t.Errorf("volume.Cell(%v) = %d, %d", cell, got, e)
	}
}
