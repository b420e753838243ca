package count

import (
	"slices"

	"facet/api"
	"facet/hull"
)

// field is a polytope as places are looked for in it: its rows, and of each direction
// its least and its greatest number.
type field struct {
	rows        [][]int
	least, most []int
}

// fieldOf is the field of a polytope, or what hull.Check says.
func fieldOf(p api.Polytope) (field, api.Errno) {
	rows, e := hull.Rows(p)
	if e != api.OK {
		return field{}, e
	}
	f := field{rows, slices.Clone(p.Points[0]), slices.Clone(p.Points[0])}
	for _, x := range p.Points {
		for i, v := range x {
			f.least[i], f.most[i] = min(f.least[i], v), max(f.most[i], v)
		}
	}
	return f, api.OK
}

// places are how many of k times the field keep each row by spare: with numbers that are
// whole, those that meet no row are those that keep all rows by 1.
func (f field) places(k, spare int) (int, api.Errno) {
	if f.box(k) > api.MaxBox {
		return 0, api.ErrLimit
	}
	dim := len(f.least)
	var rooms []int
	for _, row := range f.rows {
		rooms = append(rooms, k*row[dim]-spare)
	}
	return f.through(k, 0, rooms), api.OK
}

func (f field) box(k int) int {
	size := 1
	for i, least := range f.least {
		size *= k*(f.most[i]-least) + 1
	}
	return size
}

// through goes through the numbers of one direction, and those of all behind it; rooms
// are what each row still has room for. The last direction's numbers aren't gone through.
func (f field) through(k, direction int, rooms []int) int {
	if direction == len(f.least)-1 {
		return f.along(k, direction, rooms)
	}
	least, sum := k*f.least[direction], 0
	left := make([]int, len(rooms))
	for i := range k*f.most[direction] - least + 1 {
		for j, row := range f.rows {
			left[j] = rooms[j] - row[direction]*(least+i)
		}
		sum += f.through(k, direction+1, left)
	}
	return sum
}

// along is how many numbers of a direction all rooms have room for: those that one row
// has room for have no end on one side, so that no number between the ends is missing.
func (f field) along(k, direction int, rooms []int) int {
	from, to := k*f.least[direction], k*f.most[direction]
	for j, row := range f.rows {
		switch a := row[direction]; {
		case a > 0:
			to = min(to, down(rooms[j], a))
		case a < 0:
			from = max(from, -down(rooms[j], -a))
		case rooms[j] < 0:
			return 0
		}
	}
	return max(to-from+1, 0)
}

// down is the greatest whole number that is at most over by under (above 0).
func down(over, under int) int {
	whole := over / under
	if over%under < 0 {
		whole--
	}
	return whole
}
