package tests

import (
	"math"
	"slices"

	"facet/api"
)

func bodyOf(dim int, points ...[]int) api.Polytope { return api.Polytope{Dim: dim, Points: points} }

// cube has the numbers low and high in each direction.
func cube(dim, low, high int) api.Polytope {
	p := bodyOf(dim)
	for bits := range 1 << dim {
		x := make([]int, dim)
		for i := range x {
			x[i] = low
			if bits>>i&1 == 1 {
				x[i] = high
			}
		}
		p.Points = append(p.Points, x)
	}
	return p
}

// cross has a point each way in each direction.
func cross(dim, much int) api.Polytope {
	p := bodyOf(dim)
	for i := range dim {
		up, down := make([]int, dim), make([]int, dim)
		up[i], down[i] = much, -much
		p.Points = append(p.Points, up, down)
	}
	return p
}

// tower is a simplex of three dimensions on two of whose sides another one stands:
// as many faces of each dimension as cross(3, 1) has.
func tower() api.Polytope {
	return api.Polytope{Dim: 3, Points: append(simplex(3, 3), []int{2, 2, 2}, []int{1, 1, -1})}
}

// pyramid has p as a side, and one point beyond.
func pyramid(p api.Polytope) api.Polytope {
	out := bodyOf(p.Dim + 1)
	for _, x := range p.Points {
		out.Points = append(out.Points, append(slices.Clone(x), 0))
	}
	top := make([]int, p.Dim+1)
	top[p.Dim] = 1
	out.Points = append(out.Points, top)
	return out
}

// roof is a pyramid over a square; with a point inside and one twice.
func roof() api.Polytope {
	return bodyOf(3, []int{2, 2, 0}, []int{0, 0, 0}, []int{4, 0, 0}, []int{0, 4, 0}, []int{4, 4, 0}, []int{2, 2, 2}, []int{0, 0, 0}, []int{2, 2, 1})
}

// twentyFour is the polytope of MaxPoints corners all of whose sides are octahedra.
func twentyFour() api.Polytope {
	p := bodyOf(4)
	for i := range 4 {
		for j := range i {
			for _, signs := range [][2]int{{1, 1}, {1, -1}, {-1, 1}, {-1, -1}} {
				x := make([]int, 4)
				x[i], x[j] = signs[0], signs[1]
				p.Points = append(p.Points, x)
			}
		}
	}
	return p
}

// crowded has MaxPoints corners in four dimensions, any two of which are ends of an
// edge: no polytope of so many has more faces.
func crowded() api.Polytope {
	p := bodyOf(4)
	for k := range api.MaxPoints {
		t := math.Pi * float64(2*k+1) / api.MaxPoints
		var x []int
		for _, v := range []float64{math.Cos(t), math.Sin(t), math.Cos(2 * t), math.Sin(2 * t)} {
			x = append(x, int(math.Round(100*v)))
		}
		p.Points = append(p.Points, x)
	}
	return p
}

// turnedOver is p with its directions the other way round and, of the first, the sign:
// its mirror image, whose corners stand in another order.
func turnedOver(p api.Polytope) api.Polytope {
	out := bodyOf(p.Dim)
	for _, x := range p.Points {
		y := slices.Clone(x)
		slices.Reverse(y)
		y[0] = -y[0]
		out.Points = append(out.Points, y)
	}
	slices.Reverse(out.Points)
	return out
}

// sheared is p with what each direction has added to the next one.
func sheared(p api.Polytope) api.Polytope {
	out := bodyOf(p.Dim)
	for _, x := range p.Points {
		y := slices.Clone(x)
		for i := range y[1:] {
			y[i+1] += y[i]
		}
		out.Points = append(out.Points, y)
	}
	return out
}
