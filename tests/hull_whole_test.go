package tests

import (
	"math/big"
	"slices"
	"testing"

	"facet/api"
	"facet/exact"
	"facet/hull"
)

// solve is the one answer of a system of rows (a, b: a y = b), or nil if there is none or are several.
func solve(rows [][]*big.Rat, width int) []*big.Rat {
	at := 0
	for column := range width {
		k := slices.IndexFunc(rows[at:], func(r []*big.Rat) bool { return r[column].Sign() != 0 })
		if k < 0 {
			return nil
		}
		rows[at], rows[at+k] = rows[at+k], rows[at]
		for i, r := range rows {
			if i == at {
				continue
			}
			by := new(big.Rat).Quo(r[column], rows[at][column])
			for j := range r {
				r[j] = new(big.Rat).Sub(r[j], new(big.Rat).Mul(by, rows[at][j]))
			}
		}
		at++
	}
	for _, r := range rows[at:] {
		if r[width].Sign() != 0 {
			return nil
		}
	}
	var out []*big.Rat
	for i := range width {
		out = append(out, new(big.Rat).Quo(rows[i][width], rows[i][i]))
	}
	return out
}

// between: is x a sum of the chosen points by quotients from 0 on that are 1 together, in one way?
func between(chosen [][]int, x []int) bool {
	var rows [][]*big.Rat
	for i := range len(x) + 1 {
		var row []*big.Rat
		for _, c := range append(slices.Clone(chosen), x) {
			row = append(row, big.NewRat(int64(append([]int{1}, c...)[i]), 1))
		}
		rows = append(rows, row)
	}
	much := solve(rows, len(chosen))
	return much != nil && !slices.ContainsFunc(much, func(q *big.Rat) bool { return q.Sign() < 0 })
}

// isBeside: has x in one direction more than all points, or less? (It saves going through all of them.)
func isBeside(points [][]int, x []int) bool {
	for i := range x {
		more := func(y []int) bool { return y[i] >= x[i] }
		less := func(y []int) bool { return y[i] <= x[i] }
		if !slices.ContainsFunc(points, more) || !slices.ContainsFunc(points, less) {
			return true
		}
	}
	return false
}

// isBetween goes by Caratheodory: what lies between points lies between few of them, in one way.
func isBetween(points [][]int, x []int) bool {
	if isBeside(points, x) {
		return false
	}
	for many := 1; many <= min(len(points), len(x)+1); many++ {
		for _, c := range choices(len(points), many) {
			var chosen [][]int
			for _, i := range c {
				chosen = append(chosen, points[i])
			}
			if between(chosen, x) {
				return true
			}
		}
	}
	return false
}

// drawn is a polytope of small numbers, with points twice, between others and inside.
func drawn(d *die, dim int) api.Polytope {
	for range 1000 {
		p := api.Polytope{Dim: dim, Points: d.lists(dim+1+d.below(4), dim, 2)}
		if d.below(2) == 0 {
			p.Points = append(p.Points, slices.Clone(p.Points[0]))
		}
		if hull.Check(p) == api.OK {
			return p
		}
	}
	panic("hull.Check takes no polytope")
}

func aroundEach(dim, most int, look func(x []int)) {
	side := 2*most + 1
	n := 1
	for range dim {
		n *= side
	}
	for k := range n {
		x := make([]int, dim)
		for i := range dim {
			x[i] = k%side - most
			k /= side
		}
		look(x)
	}
}

// B3, and point 1 of the whole: what is between is what the rows cut out.
func TestHullWhereIsBetween(t *testing.T) {
	d := die(11)
	for dim := 1; dim <= 3; dim++ {
		for range 12 / dim {
			p := drawn(&d, dim)
			rows, _ := hull.Rows(p)
			aroundEach(dim, 3, func(x []int) {
				want := 1
				if isBetween(p.Points, x) {
					want = -1
					if slices.ContainsFunc(rows, func(r []int) bool { return exact.Product(r[:dim], x) == r[dim] }) {
						want = 0
					}
				}
				if got, e := hull.Where(p, x); e != api.OK || got != want {
					t.Errorf("hull.Where(%v, %v) = %d, %d, want %d", p, x, got, e, want)
				}
			})
		}
	}
}

// B2: a corner is a point that isn't between the other ones.
func TestHullCornersAreNotBetween(t *testing.T) {
	d := die(12)
	for round := range 120 {
		p := drawn(&d, 1+round%4)
		var want [][]int
		points := copied(p.Points)
		slices.SortFunc(points, slices.Compare[[]int])
		for _, x := range slices.CompactFunc(points, slices.Equal[[]int]) {
			others := slices.DeleteFunc(slices.Clone(p.Points), func(y []int) bool { return slices.Equal(x, y) })
			if !isBetween(others, x) {
				want = append(want, x)
			}
		}
		if got, e := hull.Corners(p); e != api.OK || !alike(got, want) {
			t.Errorf("hull.Corners(%v) = %v, %d, want %v", p, got, e, want)
		}
	}
}

// B2: each row holds for all points, is primitive, and is met by points enough
// to be told by them (so none can be left out); and they are in order.
func TestHullRowsAreSides(t *testing.T) {
	d := die(13)
	for round := range 200 {
		dim := 1 + round%4
		p := drawn(&d, dim)
		if round%3 == 0 {
			p.Points = append(simplex(dim, -100), d.lists(6, dim, api.MaxCoord)...)
		}
		rows, e := hull.Rows(p)
		if e != api.OK || !slices.IsSortedFunc(rows, slices.Compare[[]int]) {
			t.Errorf("hull.Rows(%v) = %v, %d", p, rows, e)
		}
		for i, row := range rows {
			if i > 0 && slices.Equal(row, rows[i-1]) {
				t.Errorf("hull.Rows(%v): %v is there twice", p, row)
			}
			checkSide(t, p, row)
		}
	}
}

func checkSide(t *testing.T, p api.Polytope, row []int) {
	t.Helper()
	a, b := row[:p.Dim], row[p.Dim]
	var side [][]int
	for _, x := range p.Points {
		if exact.Product(a, x) > b {
			t.Errorf("hull.Rows(%v): %v doesn't hold at %v", p, row, x)
		}
		if exact.Product(a, x) == b {
			side = append(side, x)
		}
	}
	if len(row) != p.Dim+1 || !slices.Equal(a, exact.Primitive(a)) {
		t.Errorf("hull.Rows(%v): %v is not primitive", p, row)
	}
	if len(side) == 0 || exact.Rank(exact.Differences(side), p.Dim) != p.Dim-1 {
		t.Errorf("hull.Rows(%v): %v is met by %v alone", p, row, side)
	}
}

// Point 1 of the whole, as far as this chapter goes.
func TestHullWhatLiesBetweenTwoIsIn(t *testing.T) {
	d := die(14)
	for round := range 60 {
		dim := 1 + round%4
		p := drawn(&d, dim)
		for i := range p.Points {
			for j := range p.Points[i] {
				p.Points[i][j] *= 6
			}
		}
		for range 20 {
			a, b := p.Points[d.below(len(p.Points))], p.Points[d.below(len(p.Points))]
			x := slices.Clone(a)
			part := d.below(7)
			for i := range x {
				x[i] = ((6-part)*a[i] + part*b[i]) / 6
			}
			if got, e := hull.Where(p, x); e != api.OK || got == 1 {
				t.Errorf("hull.Where(%v, %v) = %d, %d, but it is between %v and %v", p, x, got, e, a, b)
			}
		}
	}
}

// Z2: the order of the points, and how often each is there, says nothing.
func TestHullOrderSaysNothing(t *testing.T) {
	d := die(15)
	for round := range 60 {
		p := drawn(&d, 1+round%4)
		q := api.Polytope{Dim: p.Dim, Points: slices.Concat(p.Points, p.Points)}
		slices.Reverse(q.Points)
		rows, _ := hull.Rows(p)
		corners, _ := hull.Corners(p)
		rowsToo, e := hull.Rows(q)
		cornersToo, f := hull.Corners(q)
		if e != api.OK || f != api.OK || !alike(rows, rowsToo) || !alike(corners, cornersToo) {
			t.Errorf("%v and %v: %v, %v; %v, %v", p, q, rows, rowsToo, corners, cornersToo)
		}
	}
}
