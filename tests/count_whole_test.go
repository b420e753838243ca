package tests

import (
	"slices"
	"testing"

	"facet/api"
	"facet/count"
	"facet/hull"
	"facet/polar"
	"facet/volume"
)

// placesByWords looks at each place of the box of k p: how many are in it, how many inside?
func placesByWords(p api.Polytope, k int) (in, inside int) {
	rows, _ := hull.Rows(p)
	x := make([]int, p.Dim)
	var look func(at int)
	look = func(at int) {
		if at < p.Dim {
			for v := -2 * k; v <= 2*k; v++ {
				x[at] = v
				look(at + 1)
			}
			return
		}
		least := 1 << 30
		for _, row := range rows {
			room := k * row[p.Dim]
			for i, v := range x {
				room -= row[i] * v
			}
			least = min(least, room)
		}
		if least >= 0 {
			in++
		}
		if least > 0 {
			inside++
		}
	}
	look(0)
	return in, inside
}

// P1: the numbers of drawn are at most 2, so all places are at most 2 k.
func TestCountByWords(t *testing.T) {
	d := die(91)
	for round := range 160 {
		p := drawn(&d, 1+round%4)
		k := 1 + d.below([]int{6, 6, 4, 2}[p.Dim-1])
		in, inside := placesByWords(p, k)
		if got, e := count.Points(p, k); e != api.OK || got != in {
			t.Errorf("count.Points(%v, %d) = %d, %d, want %d", p, k, got, e, in)
		}
		if got, e := count.Inner(p, k); e != api.OK || got != inside {
			t.Errorf("count.Inner(%v, %d) = %d, %d, want %d", p, k, got, e, inside)
		}
	}
}

// P1: places of k p are those of the polytope of k times its points, once.
func TestCountWider(t *testing.T) {
	d := die(92)
	for round := range 60 {
		dim := 1 + round%3
		p := api.Polytope{Dim: dim, Points: append(simplex(dim, 3), d.lists(4, dim, 6)...)}
		for k := 1; k <= 4; k++ {
			wider := bodyOf(dim)
			for _, x := range p.Points {
				y := slices.Clone(x)
				for i := range y {
					y[i] *= k
				}
				wider.Points = append(wider.Points, y)
			}
			a, e := count.Points(p, k)
			b, f := count.Points(wider, 1)
			if a != b || e != f || e != api.OK {
				t.Errorf("count.Points(%v, %d) = %d, %d; of %v it is %d, %d", p, k, a, e, wider, b, f)
			}
			a, e = count.Inner(p, k)
			b, f = count.Inner(wider, 1)
			if a != b || e != f || e != api.OK {
				t.Errorf("count.Inner(%v, %d) = %d, %d; of %v it is %d, %d", p, k, a, e, wider, b, f)
			}
		}
	}
}

func at(polynomial []int, k int) int {
	sum := 0
	for i, much := range polynomial {
		sum += much * power(k, i)
	}
	return sum
}

// someCounted are bodies of small numbers whose places can be counted MaxTimes.
func someCounted(seed die) []api.Polytope {
	var out []api.Polytope
	for round := range 100 {
		out = append(out, drawn(&seed, 1+round%4))
	}
	for _, c := range countCases() {
		out = append(out, c.p)
	}
	return append(out, roof(), tower(), twentyFour(), pyramid(cube(3, 0, 2)), cross(4, 2))
}

// Point 3 of the whole: one polynomial counts the places of all k and, below 0, those inside; its
// greatest coefficient is how much is in it.
func TestCountByOnePolynomial(t *testing.T) {
	for _, p := range someCounted(93) {
		polynomial, e := count.Ehrhart(p)
		if e != api.OK || len(polynomial) != p.Dim+1 {
			t.Fatalf("count.Ehrhart(%v) = %v, %d", p, polynomial, e)
		}
		factorial, sign := 1, 1
		for i := range p.Dim {
			factorial, sign = factorial*(i+1), -sign
		}
		for k := range api.MaxTimes + 1 {
			got, e := count.Points(p, k)
			if e == api.OK && factorial*got != at(polynomial, k) {
				t.Errorf("count.Ehrhart(%v) = %v, count.Points of %d is %d", p, polynomial, k, got)
			}
			inside, f := count.Inner(p, k)
			if f == api.OK && factorial*inside != sign*at(polynomial, -k) {
				t.Errorf("count.Ehrhart(%v) = %v, count.Inner of %d is %d", p, polynomial, k, inside)
			}
			if e != api.OK && k <= p.Dim || f != e && k > 0 {
				t.Errorf("count.Points and count.Inner of %v, %d: %d, %d", p, k, e, f)
			}
		}
		if much, e := volume.Of(p); e != api.OK || much != polynomial[p.Dim] || polynomial[0] != factorial {
			t.Errorf("count.Ehrhart(%v) = %v, volume.Of is %d, %d", p, polynomial, much, e)
		}
	}
}

// deltaByWords goes by P2.
func deltaByWords(p api.Polytope) []int {
	var out []int
	for i := range p.Dim + 1 {
		sum, sign, choices := 0, 1, 1
		for j := range i + 1 {
			many, _ := count.Points(p, i-j)
			sum += sign * choices * many
			sign, choices = -sign, choices*(p.Dim+1-j)/(j+1)
		}
		out = append(out, sum)
	}
	return out
}

// P2, and point 3 of the whole: Delta's numbers are not below 0, and together how much is in it.
func TestCountDelta(t *testing.T) {
	for _, p := range someCounted(94) {
		got, e := count.Delta(p)
		if want := deltaByWords(p); e != api.OK || !slices.Equal(got, want) {
			t.Errorf("count.Delta(%v) = %v, %d, want %v", p, got, e, want)
			continue
		}
		sum := 0
		for _, v := range got {
			sum += v
		}
		much, _ := volume.Of(p)
		inside, _ := count.Inner(p, 1)
		if slices.Min(got) < 0 || sum != much || got[0] != 1 || got[p.Dim] != inside {
			t.Errorf("count.Delta(%v) = %v, volume.Of is %d, count.Inner of 1 is %d", p, got, much, inside)
		}
	}
}

// What is turned over, sheared or moved has as many places.
func TestCountTurned(t *testing.T) {
	for _, p := range someCounted(95) {
		want, _ := count.Delta(p)
		moved := bodyOf(p.Dim)
		for _, x := range p.Points {
			y := slices.Clone(x)
			for i := range y {
				y[i] += 3*i - 5
			}
			moved.Points = append(moved.Points, y)
		}
		for _, q := range []api.Polytope{turnedOver(p), sheared(p), moved} {
			got, e := count.Delta(q)
			if e == api.ErrLimit || hull.Check(q) == api.ErrValue {
				continue
			}
			if e != api.OK || !slices.Equal(got, want) {
				t.Errorf("count.Delta(%v) = %v, %d, of %v it is %v", q, got, e, p, want)
			}
		}
	}
}

// Polytopes turned about: of one around 0, Delta reads the same both ways just if its polar has
// whole corners (Hibi); in the plane the two have 12 places on their boundaries together.
func TestCountTurnedAbout(t *testing.T) {
	d := die(96)
	whole, other := 0, 0
	for round := range 1200 {
		p := drawn(&d, 1+round%4)
		turned, e := polar.Turn(p)
		if e == api.ErrPlace {
			continue
		}
		delta, _ := count.Delta(p)
		back := slices.Clone(delta)
		slices.Reverse(back)
		if (e == api.OK) != slices.Equal(delta, back) {
			t.Errorf("polar.Turn(%v): %d, count.Delta %v", p, e, delta)
		}
		if e != api.OK {
			other++
			continue
		}
		whole++
		if p.Dim == 2 {
			a, _ := count.Points(p, 1)
			b, _ := count.Points(turned, 1)
			if a+b != 12+2 {
				t.Errorf("%v has %d places, turned about %d", p, a, b)
			}
		}
	}
	if whole < 20 || other < 20 {
		t.Errorf("%d whole ones and %d others are too few to tell", whole, other)
	}
}

// P1: many rows, and a box near MaxBox.
func TestCountCrowded(t *testing.T) {
	p := crowded()
	for _, x := range p.Points {
		for i := range x {
			x[i] /= 10
		}
	}
	in, e := count.Points(p, 1)
	inside, f := count.Inner(p, 1)
	on := 0
	rows, _ := hull.Rows(p)
	x := make([]int, 4)
	for n := range 21 * 21 * 21 * 21 {
		for i := range x {
			x[i] = n%21 - 10
			n /= 21
		}
		least := 1 << 30
		for _, row := range rows {
			least = min(least, row[4]-row[0]*x[0]-row[1]*x[1]-row[2]*x[2]-row[3]*x[3])
		}
		if least == 0 {
			on++
		}
	}
	if e != api.OK || f != api.OK || in-inside != on || inside == 0 || len(rows) < 100 {
		t.Errorf("%d rows: %d in it, %d; %d inside, %d; %d between", len(rows), in, e, inside, f, on)
	}
}
