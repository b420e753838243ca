package tests

import (
	"math/big"
	"slices"
	"testing"

	"facet/api"
	"facet/exact"
	"facet/half"
	"facet/hull"
	"facet/lp"
)

// lessOne takes the first number out of rows of quotients: all are brought to 1, 0 or -1
// there, and each 1 is added to each -1.
func lessOne(rows [][]*big.Rat) [][]*big.Rat {
	var out, up, down [][]*big.Rat
	for _, row := range rows {
		by := new(big.Rat).Abs(row[0])
		if by.Sign() == 0 {
			out = append(out, row[1:])
			continue
		}
		var scaled []*big.Rat
		for _, v := range row[1:] {
			scaled = append(scaled, new(big.Rat).Quo(v, by))
		}
		if row[0].Sign() > 0 {
			up = append(up, scaled)
		} else {
			down = append(down, scaled)
		}
	}
	for _, a := range up {
		for _, b := range down {
			var sum []*big.Rat
			for i := range a {
				sum = append(sum, new(big.Rat).Add(a[i], b[i]))
			}
			out = append(out, sum)
		}
	}
	return out
}

func quotients(rows [][]int) [][]*big.Rat {
	var out [][]*big.Rat
	for _, row := range rows {
		var r []*big.Rat
		for _, v := range row {
			r = append(r, big.NewRat(int64(v), 1))
		}
		out = append(out, r)
	}
	return out
}

// leastLeft takes all of dim directions out of rows; what is left says t v <= b of
// one more, t: of those whose t is above 0, the least b by t (or nil). False, if it can't hold.
func leastLeft(dim int, rows [][]int) (*big.Rat, bool) {
	left := quotients(rows)
	for range dim {
		left = lessOne(left)
	}
	var least *big.Rat
	for _, r := range left {
		switch r[0].Sign() {
		case 0:
			if r[1].Sign() < 0 {
				return nil, false
			}
		case 1:
			if q := new(big.Rat).Quo(r[1], r[0]); least == nil || q.Cmp(least) < 0 {
				least = q
			}
		}
	}
	return least, true
}

// bestByHand adds a number t that is at most goal x, and takes all of x out again.
func bestByHand(c api.Cut, goal []int) (over, under int, e api.Errno) {
	var rows [][]int
	for _, row := range c.Rows {
		rows = append(rows, slices.Insert(slices.Clone(row), c.Dim, 0))
	}
	rows = append(rows, append(exact.Negated(goal), 1, 0))
	least, ok := leastLeft(c.Dim, rows)
	switch {
	case !ok:
		return 0, 0, api.ErrNone
	case least == nil:
		return 0, 0, api.ErrOpen
	}
	return int(least.Num().Int64()), int(least.Denom().Int64()), api.OK
}

// cornersByHand solves all choices of Dim rows by quotients.
func cornersByHand(c api.Cut) ([][]int, api.Errno) {
	for i := range c.Dim {
		for _, sign := range []int{1, -1} {
			goal := make([]int, c.Dim)
			goal[i] = sign
			if _, _, e := bestByHand(c, goal); e != api.OK {
				return nil, e
			}
		}
	}
	var out [][]int
	for _, chosen := range choices(len(c.Rows), c.Dim) {
		var rows [][]int
		for _, r := range chosen {
			rows = append(rows, c.Rows[r])
		}
		x := solve(quotients(rows), c.Dim)
		if x == nil || !holdAt(c.Rows, x) {
			continue
		}
		under := big.NewInt(1)
		for _, q := range x {
			common := new(big.Int).GCD(nil, nil, under, q.Denom())
			under.Mul(under, new(big.Int).Quo(q.Denom(), common))
		}
		var corner []int
		for _, q := range x {
			corner = append(corner, int(new(big.Int).Quo(new(big.Int).Mul(q.Num(), under), q.Denom()).Int64()))
		}
		out = append(out, append(corner, int(under.Int64())))
	}
	slices.SortFunc(out, slices.Compare[[]int])
	return slices.CompactFunc(out, slices.Equal[[]int]), api.OK
}

func holdAt(rows [][]int, x []*big.Rat) bool {
	for _, row := range quotients(rows) {
		room := row[len(x)]
		for i, q := range x {
			room = new(big.Rat).Sub(room, new(big.Rat).Mul(row[i], q))
		}
		if room.Sign() < 0 {
			return false
		}
	}
	return true
}

// drawnCut has few rows of small numbers, some of noughts, some twice, some that shut it in.
func drawnCut(d *die, dim, many int) api.Cut {
	c := cutOf(dim, d.lists(many, dim+1, 3)...)
	for i, row := range c.Rows {
		switch d.below(6) {
		case 0:
			clear(row[:dim])
			row[dim] = d.below(6) - 1
		case 1:
			copy(row, c.Rows[d.below(i+1)])
		case 2:
			copy(row, exact.Negated(c.Rows[d.below(i+1)]))
		case 3:
			clear(row)
			row[d.below(dim)], row[dim] = 1-2*d.below(2), d.below(5)
		}
	}
	return c
}

// H1, H3, F1 to F3, against quotients and Fourier's way by hand.
func TestCutsByHand(t *testing.T) {
	d := die(41)
	seen := map[api.Errno]int{}
	for round := range 900 {
		dim := 1 + round%4
		c := drawnCut(&d, dim, d.below(7))
		if round/4%2 == 0 && dim < 4 {
			c = with(c, box(dim, d.below(3), d.below(3)).Rows[:2*dim-d.below(2)]...)
		}
		goal := d.list(dim, 3)
		over, under, want := bestByHand(c, goal)
		corners, f := cornersByHand(c)
		seen[want]++
		seen[10+f]++
		if got, e := half.Corners(c); e != f || !alike(got, corners) {
			t.Errorf("half.Corners(%v) = %v, %d, want %v, %d", c, got, e, corners, f)
		}
		if got, e := half.Empty(c); e != api.OK || got != (want == api.ErrNone) {
			t.Errorf("half.Empty(%v) = %v, %d", c, got, e)
		}
		checkBest(t, c, goal, over, under, want)
		w, e := lp.Farkas(c)
		if want == api.ErrNone && (e != api.OK || !refuted(c, w)) || want != api.ErrNone && (e != api.ErrForm || !isNothing(w)) {
			t.Errorf("lp.Farkas(%v) = %v, %d", c, w, e)
		}
	}
	for _, e := range []api.Errno{api.OK, api.ErrNone, api.ErrOpen} {
		if seen[e] < 50 || seen[10+e] < 50 {
			t.Errorf("error %d is there %d and %d times alone", e, seen[e], seen[10+e])
		}
	}
}

func checkBest(t *testing.T, c api.Cut, goal []int, over, under int, want api.Errno) {
	t.Helper()
	if o, u, e := lp.Best(c, goal); o != over || u != under || e != want {
		t.Errorf("lp.Best(%v, %v) = %d by %d, %d, want %d by %d, %d", c, goal, o, u, e, over, under, want)
	}
	w, e := lp.Shows(c, goal)
	if e != want || e == api.OK && !shown(c, goal, over, under, w) || e != api.OK && !isNothing(w) {
		t.Errorf("lp.Shows(%v, %v) = %v, %d, want error %d", c, goal, w, e, want)
	}
}

// F1, F2, H3, point 1 of the whole: the greatest is met at a corner, and shown to be the greatest.
func TestCutsGreatestIsAtACorner(t *testing.T) {
	d := die(42)
	many := 0
	for range 60 {
		c, goal := greatCut(&d, true), d.list(4, api.MaxCut)
		corners, e := half.Corners(c)
		if e != api.OK {
			continue
		}
		many++
		best := new(big.Rat)
		for i, x := range corners {
			if value := big.NewRat(int64(exact.Product(goal, x[:4])), int64(x[4])); i == 0 || value.Cmp(best) > 0 {
				best = value
			}
			if slices.ContainsFunc(c.Rows, func(r []int) bool { return exact.Product(r[:4], x[:4]) > r[4]*x[4] }) {
				t.Errorf("half.Corners(%v): %v is not in it", c, x)
			}
		}
		checkBest(t, c, goal, int(best.Num().Int64()), int(best.Denom().Int64()), api.OK)
	}
	if many < 10 {
		t.Errorf("%d have an end", many)
	}
}

// wholeCut is the cut of a polytope's rows, if they are few and small enough to be one.
func wholeCut(p api.Polytope) (api.Cut, bool) {
	rows, _ := hull.Rows(p)
	c := api.Cut{Dim: p.Dim, Rows: rows}
	return c, half.Check(c) == api.OK
}

// Point 1 of the whole: corners tell rows, and rows corners.
func TestCutsRowsTellCorners(t *testing.T) {
	d := die(43)
	many := [api.MaxDim + 1]int{}
	for round := range 240 {
		p := drawn(&d, 1+round%4)
		c, ok := wholeCut(p)
		if !ok {
			continue
		}
		many[p.Dim]++
		corners, _ := hull.Corners(p)
		for i := range corners {
			corners[i] = append(corners[i], 1)
		}
		if got, e := half.Corners(c); e != api.OK || !alike(got, corners) {
			t.Errorf("half.Corners(%v) = %v, %d, want %v", c, got, e, corners)
		}
	}
	if slices.Min(many[1:]) < 10 {
		t.Errorf("so many of each dimension: %v", many)
	}
}

// H2, point 1 of the whole: without a direction it is what its places are without it.
func TestCutsWithoutIsWhatPlacesAre(t *testing.T) {
	d := die(44)
	many := 0
	for round := range 60 {
		p := drawn(&d, 2+round%3)
		c, ok := wholeCut(p)
		if !ok {
			continue
		}
		many++
		k := d.below(p.Dim)
		rows, e := half.Without(c, k)
		q := api.Polytope{Dim: p.Dim - 1}
		for _, x := range p.Points {
			q.Points = append(q.Points, slices.Delete(slices.Clone(x), k, k+1))
		}
		aroundEach(q.Dim, 3, func(x []int) {
			where, f := hull.Where(q, x)
			out := slices.ContainsFunc(rows, func(r []int) bool { return exact.Product(r[:q.Dim], x) > r[q.Dim] })
			if e != api.OK || f != api.OK || out != (where == 1) {
				t.Errorf("half.Without(%v, %d) = %v, %d, but %v is at %d", c, k, rows, e, x, where)
			}
		})
	}
	if many < 30 {
		t.Errorf("%d alone", many)
	}
}

// H2: of cuts with and without an end, a place x is left just if there is a number that
// may stand where the k-th one was taken out.
func TestCutsWithoutHasAPlaceBehindIt(t *testing.T) {
	d := die(45)
	for round := range 200 {
		dim := 1 + round%4
		c := drawnCut(&d, dim, 1+d.below(6))
		k := d.below(dim)
		rows, e := half.Without(c, k)
		if e != api.OK || !slices.IsSortedFunc(rows, slices.Compare[[]int]) {
			t.Errorf("half.Without(%v, %d) = %v, %d", c, k, rows, e)
		}
		for range 20 {
			x := d.list(dim-1, 4)
			var line [][]int // what is left of the rows, if x stands around the k-th number: t v <= b
			for _, r := range c.Rows {
				rest := slices.Delete(slices.Clone(r), k, k+1)
				line = append(line, []int{r[k], 0, rest[dim-1] - exact.Product(rest[:dim-1], x)})
			}
			_, want := leastLeft(1, line)
			got := !slices.ContainsFunc(rows, func(r []int) bool { return exact.Product(r[:dim-1], x) > r[dim-1] })
			if got != want {
				t.Errorf("half.Without(%v, %d) = %v: is %v in it? %v", c, k, rows, x, got)
			}
		}
	}
}

// H2: the rows are just those that are asked for, lowered, each once, in order.
func TestCutsWithoutByHand(t *testing.T) {
	d := die(46)
	for round := range 300 {
		dim := 1 + round%4
		c := drawnCut(&d, dim, d.below(api.MaxRows+1))
		if round%2 == 0 {
			c = cutOf(dim, d.lists(d.below(api.MaxRows+1), dim+1, api.MaxCut)...)
		}
		k := d.below(dim)
		want := withoutByHand(c, k)
		if got, e := half.Without(c, k); e != api.OK || !alike(got, want) {
			t.Errorf("half.Without(%v, %d) = %v, %d, want %v", c, k, got, e, want)
		}
	}
}

// withoutByHand finds each pair once, and lowers by trying all divisors.
func withoutByHand(c api.Cut, k int) [][]int {
	var out [][]int
	for i, a := range c.Rows {
		if a[k] == 0 {
			out = append(out, slices.Clone(a))
		}
		for _, b := range c.Rows[:i] {
			if a[k]*b[k] >= 0 {
				continue
			}
			sum := make([]int, len(a))
			for j := range sum {
				sum[j] = max(a[k], -a[k])*b[j] + max(b[k], -b[k])*a[j]
			}
			out = append(out, sum)
		}
	}
	for i := range out {
		out[i] = slices.Delete(out[i], k, k+1)
		for divisor := 800; divisor > 1; divisor-- {
			if !slices.ContainsFunc(out[i], func(v int) bool { return v%divisor != 0 }) {
				for j := range out[i] {
					out[i][j] /= divisor
				}
			}
		}
	}
	noughts := make([]int, c.Dim-1)
	out = slices.DeleteFunc(out, func(r []int) bool { return slices.Equal(r[:c.Dim-1], noughts) && r[c.Dim-1] >= 0 })
	slices.SortFunc(out, slices.Compare[[]int])
	return slices.CompactFunc(out, slices.Equal[[]int])
}
