package tests

import (
	"math"
	"testing"

	"facet/api"
	"facet/plane"
)

type planeCheckCase struct {
	what   string
	dim    int
	planes [][]int
	want   api.Errno
}

// parallels are so many planes, one behind the other.
func parallels(dim, many int) [][]int {
	planes := repeat(make([]int, dim+1), many)
	for i := range planes {
		planes[i][0], planes[i][dim] = 1, i
	}
	return planes
}

func planeCheckCases() []planeCheckCase {
	const most = api.MaxCut
	return []planeCheckCase{
		{"no dimension", 0, nil, api.ErrDim},
		{"below 0", -1, nil, api.ErrDim},
		{"the least dimension", 1, [][]int{{1, 0}}, api.OK},
		{"the greatest dimension", 3, [][]int{{1, 0, 0, 0}}, api.OK},
		{"a dimension too many", 4, [][]int{{1, 0, 0, 0, 0}}, api.ErrDim},
		{"the greatest int as dimension", math.MaxInt, nil, api.ErrDim},
		{"the least int as dimension", math.MinInt, nil, api.ErrDim},
		{"the dimension ahead of the count", 4, parallels(4, 7), api.ErrDim},
		{"the dimension ahead of the form", 0, [][]int{{1, 2, 3}}, api.ErrDim},
		{"the dimension ahead of the value", 4, [][]int{{99, 0, 0, 0, 0}}, api.ErrDim},
		{"the dimension ahead of a of 0", 4, [][]int{{0, 0, 0, 0, 1}}, api.ErrDim},
		{"the dimension ahead of the same", 4, repeat([]int{1, 0, 0, 0, 1}, 2), api.ErrDim},

		{"no list of planes", 2, nil, api.OK},
		{"no plane", 3, [][]int{}, api.OK},
		{"the most planes", 1, parallels(1, api.MaxPlanes), api.OK},
		{"the most planes of the greatest dimension", 3, parallels(3, api.MaxPlanes), api.OK},
		{"a plane too many", 2, parallels(2, api.MaxPlanes+1), api.ErrCount},
		{"the count ahead of the form", 2, parallels(1, api.MaxPlanes+1), api.ErrCount},
		{"the count ahead of the value", 1, repeat([]int{21, 0}, api.MaxPlanes+1), api.ErrCount},
		{"the count ahead of a of 0", 1, repeat([]int{0, 0}, api.MaxPlanes+1), api.ErrCount},
		{"the count ahead of the same", 1, repeat([]int{1, 0}, api.MaxPlanes+1), api.ErrCount},

		{"a plane without b", 2, [][]int{{1, 2}}, api.ErrForm},
		{"a plane too long", 2, [][]int{{1, 2, 3, 4}}, api.ErrForm},
		{"a plane that is nil", 1, [][]int{{1, 1}, nil}, api.ErrForm},
		{"the last plane too short", 3, [][]int{{1, 1, 1, 1}, {1, 1, 1}}, api.ErrForm},

		{"numbers at the bound", 2, [][]int{{most, -most, most}, {-most, most, most}}, api.OK},
		{"above the bound", 2, [][]int{{most + 1, 0, 0}}, api.ErrValue},
		{"below the bound", 2, [][]int{{1, -most - 1, 0}}, api.ErrValue},
		{"b above the bound", 2, [][]int{{1, 0, most + 1}}, api.ErrValue},
		{"b below the bound", 2, [][]int{{1, 0, -most - 1}}, api.ErrValue},
		{"the greatest int", 1, [][]int{{math.MaxInt, 0}}, api.ErrValue},
		{"the least int", 1, [][]int{{1, math.MinInt}}, api.ErrValue},

		{"a is 0", 2, [][]int{{0, 0, 1}}, api.ErrForm},
		{"all is 0", 1, [][]int{{0, 0}}, api.ErrForm},
		{"the last one's a is 0", 3, [][]int{{1, 0, 0, 0}, {0, 0, 0, -20}}, api.ErrForm},
		{"only the last of a is not 0", 3, [][]int{{0, 0, -1, 0}}, api.OK},

		{"the same numbers", 2, [][]int{{1, 2, 3}, {1, 2, 3}}, api.ErrTwice},
		{"twice the numbers", 2, [][]int{{1, 2, 3}, {2, 4, 6}}, api.ErrTwice},
		{"half the numbers", 2, [][]int{{2, 4, 6}, {1, 2, 3}}, api.ErrTwice},
		{"other signs", 2, [][]int{{1, -2, 3}, {-1, 2, -3}}, api.ErrTwice},
		{"two thirds, turned", 1, [][]int{{6, 9}, {-4, -6}}, api.ErrTwice},
		{"the same, through 0", 3, [][]int{{1, 0, 2, 0}, {-3, 0, -6, 0}}, api.ErrTwice},
		{"the first again at the end", 1, [][]int{{1, 1}, {1, 2}, {1, 3}, {5, 5}}, api.ErrTwice},
		{"the second again at the end", 1, [][]int{{1, 1}, {1, 2}, {1, 3}, {-1, -2}}, api.ErrTwice},
		{"the last but one again at the end", 1, [][]int{{1, 1}, {1, 2}, {1, 3}, {2, 6}}, api.ErrTwice},
		{"another b", 2, [][]int{{1, 2, 3}, {2, 4, 5}}, api.OK},
		{"the same but for b's sign", 2, [][]int{{1, 2, 3}, {1, 2, -3}}, api.OK},
		{"the same but for a's sign", 1, [][]int{{1, 2}, {-1, 2}}, api.OK},
		{"another a", 2, [][]int{{1, 2, 3}, {1, 3, 3}}, api.OK},

		{"a plane's form ahead of its value", 1, [][]int{{99, 0, 0}}, api.ErrForm},
		{"a plane's value ahead of its a of 0", 1, [][]int{{0, 99}}, api.ErrValue},
		{"the first one's value ahead of the second's form", 1, [][]int{{99, 0}, {0}}, api.ErrValue},
		{"the first one's a of 0 ahead of the second's value", 1, [][]int{{0, 0}, {99, 0}}, api.ErrForm},
		{"the second one's a of 0 is not the first one's", 1, [][]int{{1, 0}, {0, 0}}, api.ErrForm},
		{"the second one the same ahead of the third's form", 1, [][]int{{1, 0}, {1, 0}, {1}}, api.ErrTwice},
		{"the second one the same ahead of the third's value", 1, [][]int{{1, 0}, {2, 0}, {99, 0}}, api.ErrTwice},
		{"the second one's value ahead of the third the same", 1, [][]int{{1, 0}, {21, 0}, {1, 0}}, api.ErrValue},
	}
}

// L1
func TestPlaneCheck(t *testing.T) {
	for _, c := range planeCheckCases() {
		if got := plane.Check(c.dim, c.planes); got != c.want {
			t.Errorf("%s: plane.Check(%d, %v) = %d, want %d", c.what, c.dim, c.planes, got, c.want)
		}
	}
}

// L1, Z1: each call says first what Check says, and nothing else with it.
func TestPlaneCallsSayWhatCheckSays(t *testing.T) {
	for _, c := range planeCheckCases() {
		texts := map[string]func(int, [][]int) ([]string, api.Errno){"Faces": plane.Faces, "Regions": plane.Regions, "Bounded": plane.Bounded}
		for name, call := range texts {
			if got, e := call(c.dim, c.planes); e != c.want || e != api.OK && len(got) != 0 {
				t.Errorf("%s: %s = %v, %d, want error %d", c.what, name, got, e, c.want)
			}
		}
		if got, e := plane.Flats(c.dim, c.planes); e != c.want || e != api.OK && len(got) != 0 {
			t.Errorf("%s: Flats = %v, %d, want error %d", c.what, got, e, c.want)
		}
		if got, e := plane.Poly(c.dim, c.planes); e != c.want || e != api.OK && len(got) != 0 {
			t.Errorf("%s: Poly = %v, %d, want error %d", c.what, got, e, c.want)
		}
	}
}
