package tests

import (
	"math"
	"slices"
	"testing"

	"facet/api"
	"facet/count"
	"facet/exact"
	"facet/hull"
	"facet/sum"
	"facet/volume"
)

type zoneCheckCase struct {
	what string
	dim  int
	ways [][]int
	want api.Errno
}

func zoneCheckCases() []zoneCheckCase {
	units := [][]int{{1, 0, 0}, {0, 1, 0}, {0, 0, 1}}
	return []zoneCheckCase{
		{"one of one dimension", 1, [][]int{{5}}, api.OK},
		{"of two", 2, [][]int{{1, 0}, {0, 1}}, api.OK},
		{"of three", 3, units, api.OK},
		{"no dimension", 0, [][]int{{}}, api.ErrDim},
		{"below 0", -1, [][]int{{1}}, api.ErrDim},
		{"four, though a polytope may have it", 4, simplex(4, 1)[1:], api.ErrDim},
		{"the greatest int", math.MaxInt, nil, api.ErrDim},
		{"the least int", math.MinInt, nil, api.ErrDim},
		{"a dimension ahead of the count", 4, nil, api.ErrDim},
		{"nil", 2, nil, api.ErrCount},
		{"no way", 1, [][]int{}, api.ErrCount},
		{"the most ways", 1, repeat([]int{1}, api.MaxZone), api.OK},
		{"a way too many", 1, repeat([]int{1}, api.MaxZone+1), api.ErrCount},
		{"a way too many, of no form", 1, repeat([]int{99, 1}, api.MaxZone+1), api.ErrCount},
		{"a number too few", 2, [][]int{{1, 0}, {1}}, api.ErrForm},
		{"a number too many", 2, [][]int{{1, 0, 0}, {0, 1}}, api.ErrForm},
		{"a way that is nil", 1, [][]int{{1}, nil}, api.ErrForm},
		{"numbers at the bound", 2, [][]int{{20, -20}, {20, 20}}, api.OK},
		{"above it", 2, [][]int{{21, 0}, {0, 1}}, api.ErrValue},
		{"below it", 2, [][]int{{1, 0}, {0, -21}}, api.ErrValue},
		{"the greatest int as a number", 1, [][]int{{math.MaxInt}}, api.ErrValue},
		{"the least int as a number", 1, [][]int{{math.MinInt}}, api.ErrValue},
		{"a way's form ahead of its value", 2, [][]int{{21}, {0, 1}}, api.ErrForm},
		{"the first one's value ahead of the second's form", 2, [][]int{{21, 0}, {1}}, api.ErrValue},
		{"the first one's form ahead of the second's value", 2, [][]int{{1}, {21, 0}}, api.ErrForm},
		{"a form ahead of flatness", 2, [][]int{{1, 1}, {1}}, api.ErrForm},
		{"a value ahead of flatness", 2, [][]int{{0, 21}}, api.ErrValue},
		{"nought", 1, [][]int{{0}}, api.ErrFlat},
		{"nought, the most of it", 3, repeat([]int{0, 0, 0}, api.MaxZone), api.ErrFlat},
		{"one way of two dimensions", 2, [][]int{{1, 1}}, api.ErrFlat},
		{"along one line", 2, [][]int{{1, 2}, {-2, -4}, {3, 6}}, api.ErrFlat},
		{"on one plane", 3, [][]int{{1, -1, 0}, {0, 1, -1}, {1, 0, -1}, {2, -1, -1}, {0, 0, 0}}, api.ErrFlat},
		{"next to it", 3, [][]int{{1, -1, 0}, {0, 1, -1}, {1, 0, -1}, {2, -1, -1}, {0, 0, 1}}, api.OK},
		{"one of them nought", 2, [][]int{{0, 0}, {1, 0}, {0, 1}}, api.OK},
	}
}

// S2
func TestZoneCheck(t *testing.T) {
	for _, c := range zoneCheckCases() {
		if got := sum.Check(c.dim, c.ways); got != c.want {
			t.Errorf("%s: sum.Check(%d, %v) = %d, want %d", c.what, c.dim, c.ways, got, c.want)
		}
		if got, e := sum.Zone(c.dim, c.ways); e != c.want || e != api.OK && len(got) != 0 || e == api.OK && len(got) == 0 {
			t.Errorf("%s: sum.Zone(%d, %v) = %v, %d, want error %d", c.what, c.dim, c.ways, got, e, c.want)
		}
		sets, sizes, e := sum.Tiles(c.dim, c.ways)
		if e != c.want || e != api.OK && len(sets)+len(sizes) != 0 || e == api.OK && len(sets) == 0 {
			t.Errorf("%s: sum.Tiles(%d, %v) = %v, %v, %d, want error %d", c.what, c.dim, c.ways, sets, sizes, e, c.want)
		}
	}
}

// S2
func TestZoneAndTiles(t *testing.T) {
	for _, c := range []struct {
		what    string
		dim     int
		ways    [][]int
		corners [][]int
		sets    [][]int
		sizes   []int
	}{
		{"the document's", 2, [][]int{{1, 0}, {0, 1}, {1, 1}},
			[][]int{{0, 0}, {0, 1}, {1, 0}, {1, 2}, {2, 1}, {2, 2}}, [][]int{{0, 1}, {0, 2}, {1, 2}}, []int{1, 1, 1}},
		{"a segment", 1, [][]int{{-7}}, [][]int{{-7}, {0}}, [][]int{{0}}, []int{7}},
		{"segments both ways, and nought", 1, [][]int{{3}, {-7}, {0}, {2}}, [][]int{{-7}, {5}}, [][]int{{0}, {1}, {3}}, []int{3, 7, 2}},
		{"the longest", 1, repeat([]int{20}, 5), [][]int{{0}, {100}}, [][]int{{0}, {1}, {2}, {3}, {4}}, repeat([]int{20, 20, 20, 20, 20}, 1)[0]},
		{"a rectangle", 2, [][]int{{0, 5}, {3, 0}}, [][]int{{0, 0}, {0, 5}, {3, 0}, {3, 5}}, [][]int{{0, 1}}, []int{15}},
		{"one way twice, and the other way round", 2, [][]int{{1, 0}, {0, 2}, {1, 0}, {-1, 0}},
			[][]int{{-1, 0}, {-1, 2}, {2, 0}, {2, 2}}, [][]int{{0, 1}, {1, 2}, {1, 3}}, []int{2, 2, 2}},
		{"with nought", 2, [][]int{{0, 0}, {1, 1}, {1, -1}}, [][]int{{0, 0}, {1, -1}, {1, 1}, {2, 0}}, [][]int{{1, 2}}, []int{2}},
		{"a cube", 3, [][]int{{0, 0, 4}, {0, 4, 0}, {4, 0, 0}}, cube(3, 0, 4).Points, [][]int{{0, 1, 2}}, []int{64}},
		{"a cube along its diagonal", 3, [][]int{{1, 0, 0}, {0, 1, 0}, {0, 0, 1}, {1, 1, 1}},
			[][]int{{0, 0, 0}, {0, 0, 1}, {0, 1, 0}, {0, 1, 1}, {1, 0, 0}, {1, 0, 1}, {1, 1, 0},
				{1, 1, 2}, {1, 2, 1}, {1, 2, 2}, {2, 1, 1}, {2, 1, 2}, {2, 2, 1}, {2, 2, 2}},
			[][]int{{0, 1, 2}, {0, 1, 3}, {0, 2, 3}, {1, 2, 3}}, []int{1, 1, 1, 1}},
		{"three on a plane", 3, [][]int{{1, 0, 0}, {0, 1, 0}, {1, 1, 0}, {0, 0, -2}},
			[][]int{{0, 0, -2}, {0, 0, 0}, {0, 1, -2}, {0, 1, 0}, {1, 0, -2}, {1, 0, 0}, {1, 2, -2}, {1, 2, 0}, {2, 1, -2}, {2, 1, 0}, {2, 2, -2}, {2, 2, 0}},
			[][]int{{0, 1, 3}, {0, 2, 3}, {1, 2, 3}}, []int{2, 2, 2}},
	} {
		want := copied(c.corners)
		slices.SortFunc(want, slices.Compare[[]int])
		if got, e := sum.Zone(c.dim, c.ways); e != api.OK || !alike(got, want) {
			t.Errorf("%s: sum.Zone(%d, %v) = %v, %d, want %v", c.what, c.dim, c.ways, got, e, want)
		}
		if sets, sizes, e := sum.Tiles(c.dim, c.ways); e != api.OK || !alike(sets, c.sets) || !slices.Equal(sizes, c.sizes) {
			t.Errorf("%s: sum.Tiles(%d, %v) = %v, %v, %d, want %v, %v", c.what, c.dim, c.ways, sets, sizes, e, c.sets, c.sizes)
		}
	}
}

// drawnWays are ways that sum.Check takes: some small, with some along one line or nought, some great.
func drawnWays(d *die, dim int) [][]int {
	for range 1000 {
		most := []int{1, 2, 20}[d.below(3)]
		ways := d.lists(dim+d.below(api.MaxZone-dim+1), dim, most)
		if sum.Check(dim, ways) == api.OK {
			return ways
		}
	}
	panic("sum.Check takes no ways")
}

// sumsOfSome are the sums of all sets of ways, each once, in order.
func sumsOfSome(dim int, ways [][]int) [][]int {
	var out [][]int
	for bits := range 1 << len(ways) {
		x := make([]int, dim)
		for i, way := range ways {
			if bits>>i&1 == 1 {
				x = exact.Sum(x, way)
			}
		}
		out = append(out, x)
	}
	slices.SortFunc(out, slices.Compare[[]int])
	return slices.CompactFunc(out, slices.Equal[[]int])
}

// S2
func TestZoneByWords(t *testing.T) {
	d := die(121)
	for round := range 200 {
		dim := 1 + round%3
		ways := drawnWays(&d, dim)
		want := cornersByChoices(sumsOfSome(dim, ways))
		if got, e := sum.Zone(dim, ways); e != api.OK || !alike(got, want) {
			t.Errorf("sum.Zone(%d, %v) = %v, %d, want %v", dim, ways, got, e, want)
		}
	}
}

// S2
func TestTilesByWords(t *testing.T) {
	d := die(122)
	for round := range 200 {
		dim := 1 + round%3
		ways := drawnWays(&d, dim)
		all := choices(len(ways), dim)
		slices.SortFunc(all, slices.Compare[[]int])
		var wantSets [][]int
		var wantSizes []int
		for _, c := range all {
			if det := detByHand(cornersOfCell(ways, c)); det != 0 {
				wantSets = append(wantSets, c)
				wantSizes = append(wantSizes, max(det, -det))
			}
		}
		if sets, sizes, e := sum.Tiles(dim, ways); e != api.OK || !alike(sets, wantSets) || !slices.Equal(sizes, wantSizes) {
			t.Errorf("sum.Tiles(%d, %v) = %v, %v, %d, want %v, %v", dim, ways, sets, sizes, e, wantSets, wantSizes)
		}
	}
}

// S2, and point 3 of the whole: a zone has in it what its tiles have together.
func TestTilesFillTheZone(t *testing.T) {
	d := die(123)
	for round := range 150 {
		dim := 1 + round%3
		ways := drawnWays(&d, dim)
		corners, e := sum.Zone(dim, ways)
		_, sizes, f := sum.Tiles(dim, ways)
		want := 0
		for _, size := range sizes {
			want += size * []int{1, 1, 2, 6}[dim]
		}
		if got, g := volume.Of(bodyOf(dim, corners...)); e != api.OK || f != api.OK || g != api.OK || got != want {
			t.Errorf("%v: the zone %v has %d, %d, its tiles %d", ways, corners, got, g, want)
		}
	}
}

// S2: a zone is the same, looked at from its farthest end.
func TestZoneIsTheSameTurnedAbout(t *testing.T) {
	d := die(124)
	for round := range 100 {
		dim := 1 + round%3
		ways := drawnWays(&d, dim)
		corners, _ := sum.Zone(dim, ways)
		end := make([]int, dim)
		for _, way := range ways {
			end = exact.Sum(end, way)
		}
		var turned [][]int
		for _, x := range corners {
			turned = append(turned, exact.Sum(end, exact.Negated(x)))
		}
		slices.SortFunc(turned, slices.Compare[[]int])
		if !alike(turned, corners) {
			t.Errorf("sum.Zone(%d, %v) = %v, turned about %v", dim, ways, corners, turned)
		}
	}
}

// S1, S2: the zone of some ways and the zone of others are together the zone of all.
func TestZoneIsASumOfZones(t *testing.T) {
	d := die(125)
	for round := range 60 {
		dim := 1 + round%2
		few, more := d.lists(2, dim, 6), d.lists(3, dim, 6)
		p, e := sum.Zone(dim, few)
		q, f := sum.Zone(dim, more)
		if e != api.OK || f != api.OK {
			continue
		}
		want, _ := sum.Zone(dim, slices.Concat(few, more))
		if got, e := sum.Corners(bodyOf(dim, p...), bodyOf(dim, q...)); e != api.OK || !alike(got, want) {
			t.Errorf("sum.Corners(%v, %v) = %v, %d, want %v", p, q, got, e, want)
		}
	}
}

// commonOfMinors is what all determinants of as many columns as there are rows have in common.
func commonOfMinors(rows [][]int, dim int) int {
	common := 0
	for _, c := range choices(dim, len(rows)) {
		var m [][]int
		for _, row := range rows {
			var short []int
			for _, i := range c {
				short = append(short, row[i])
			}
			m = append(m, short)
		}
		for det := detByHand(m); det != 0; {
			common, det = det, common%det
		}
	}
	return max(common, -common)
}

// S2, and point 3 of the whole: the places of whole numbers of a zone are told by all
// sets of ways that don't hang on each other.
func TestZonePlaces(t *testing.T) {
	d := die(126)
	for round := range 60 {
		dim := 1 + round%3
		ways := d.lists(dim+d.below(api.MaxZone-dim+1), dim, 3)
		corners, e := sum.Zone(dim, ways)
		if e != api.OK {
			continue
		}
		want := 1
		for many := 1; many <= dim; many++ {
			for _, c := range choices(len(ways), many) {
				want += commonOfMinors(cornersOfCell(ways, c), dim)
			}
		}
		if got, e := count.Points(bodyOf(dim, corners...), 1); e != api.OK || got != want {
			t.Errorf("%v: the zone %v has %d places, %d, want %d", ways, corners, got, e, want)
		}
	}
}

// S2: no ways have more corners than these.
func TestZoneMostCorners(t *testing.T) {
	ways := [][]int{{20, 1, 3}, {-3, 19, 2}, {5, -7, 20}, {11, 13, -17}, {-20, 8, 9}}
	corners, e := sum.Zone(3, ways)
	if e != api.OK || len(corners) != 22 || hull.Check(bodyOf(3, corners...)) != api.OK {
		t.Errorf("sum.Zone(3, %v) = %v (%d), %d", ways, corners, len(corners), e)
	}
}

// Z2
func TestZoneLists(t *testing.T) {
	was := [][]int{{1, 0}, {0, 1}, {1, 1}}
	ways := roomyLists(was)
	zone, e := sum.Zone(2, ways)
	sets, sizes, f := sum.Tiles(2, ways)
	again, sizesAgain, _ := sum.Tiles(2, ways)
	if e != api.OK || f != api.OK || len(zone) != 6 || len(sets) != 3 || !untouchedLists(ways, was) {
		t.Errorf("%v: %v, %d; %v, %v, %d", ways, zone, e, sets, sizes, f)
	}
	if !apart(ways, zone, sets, again) || !apart(append(slices.Concat(ways, zone, sets, again), sizes, sizesAgain)...) {
		t.Error("lists share memory")
	}
	flat := roomyLists([][]int{{1, 2}, {2, 4}})
	if e := sum.Check(2, flat); e != api.ErrFlat || !untouchedLists(flat, [][]int{{1, 2}, {2, 4}}) {
		t.Errorf("sum.Check(2, %v) = %d", flat, e)
	}
}
