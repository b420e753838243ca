package tests

import (
	"math/big"
	"slices"
	"strings"
	"testing"

	"facet/api"
	"facet/plane"
)

type planeCase struct {
	what    string
	dim     int
	planes  [][]int
	faces   string
	regions string
	bounded string
	flats   [][]int
	poly    []int
}

func planeCases() []planeCase {
	return []planeCase{
		{"one place of a line", 1, [][]int{{1, 0}}, "+ - 0", "+ -", "", [][]int{{}, {0}}, []int{-1, 1}},
		{"the document's two places", 1, [][]int{{1, 0}, {2, 4}}, "++ +- +0 -- 0-", "++ +- --", "+-",
			[][]int{{}, {0}, {1}}, []int{-2, 1}},
		{"two places, one turned", 1, [][]int{{1, 0}, {-2, -4}}, "++ +- +0 -+ 0+", "++ +- -+", "++",
			[][]int{{}, {0}, {1}}, []int{-2, 1}},
		{"three places, as quotients", 1, [][]int{{3, 1}, {2, 1}, {5, 2}}, "+++ +-+ +-- +-0 +0+ --- 0--", "+++ +-+ +-- ---", "+-+ +--",
			[][]int{{}, {0}, {1}, {2}}, []int{-3, 1}},
		{"one line", 2, [][]int{{1, 2, 3}}, "+ - 0", "+ -", "", [][]int{{}, {0}}, []int{0, -1, 1}},
		{"two lines side by side", 2, [][]int{{1, 0, 0}, {1, 0, 1}}, "++ +- +0 -- 0-", "++ +- --", "",
			[][]int{{}, {0}, {1}}, []int{0, -2, 1}},
		{"two lines that meet", 2, [][]int{{1, 0, 0}, {1, 1, 1}}, "++ +- +0 -+ -- -0 0+ 0- 00", "++ +- -+ --", "",
			[][]int{{}, {0}, {1}, {0, 1}}, []int{1, -2, 1}},
		{"three lines through a place", 2, [][]int{{1, 0, 0}, {0, 1, 0}, {1, 1, 0}},
			"+++ +-+ +-- +-0 +0+ -++ -+- -+0 --- -0- 0++ 0-- 000", "+++ +-+ +-- -++ -+- ---", "",
			[][]int{{}, {0}, {1}, {2}, {0, 1, 2}}, []int{2, -3, 1}},
		{"a triangle", 2, [][]int{{1, 0, 0}, {0, 1, 0}, {1, 1, 1}},
			"+++ ++- ++0 +-+ +-- +-0 +0+ +0- +00 -++ -+- -+0 --- -0- 0++ 0+- 0+0 0-- 00-", "+++ ++- +-+ +-- -++ -+- ---", "++-",
			[][]int{{}, {0}, {1}, {2}, {0, 1}, {0, 2}, {1, 2}}, []int{3, -3, 1}},
		{"the document's flats", 2, [][]int{{1, 0, 0}, {0, 1, 0}, {1, 0, 1}},
			"+++ ++- ++0 +-+ +-- +-0 +0+ +0- +00 -+- --- -0- 0+- 0-- 00-", "+++ ++- +-+ +-- -+- ---", "",
			[][]int{{}, {0}, {1}, {2}, {0, 1}, {1, 2}}, []int{2, -3, 1}},
		{"one plane of space", 3, [][]int{{0, 0, 1, 5}}, "+ - 0", "+ -", "", [][]int{{}, {0}}, []int{0, 0, -1, 1}},
		{"three that no place of space has in common", 3, [][]int{{1, 0, 0, 0}, {0, 1, 0, 0}, {1, 1, 0, 1}},
			"+++ ++- ++0 +-+ +-- +-0 +0+ +0- +00 -++ -+- -+0 --- -0- 0++ 0+- 0+0 0-- 00-", "+++ ++- +-+ +-- -++ -+- ---", "",
			[][]int{{}, {0}, {1}, {2}, {0, 1}, {0, 2}, {1, 2}}, []int{0, 3, -3, 1}},
	}
}

// joined has a blank behind each text: so that one empty text is told from none.
func joined(texts []string) string {
	var b strings.Builder
	for _, text := range texts {
		b.WriteString(text + " ")
	}
	return b.String()
}

// L2, L3
func TestPlane(t *testing.T) {
	for _, c := range planeCases() {
		if got, e := plane.Faces(c.dim, c.planes); e != api.OK || joined(got) != joined(strings.Fields(c.faces)) {
			t.Errorf("%s: Faces = %v, %d, want %s", c.what, got, e, c.faces)
		}
		if got, e := plane.Regions(c.dim, c.planes); e != api.OK || joined(got) != joined(strings.Fields(c.regions)) {
			t.Errorf("%s: Regions = %v, %d, want %s", c.what, got, e, c.regions)
		}
		if got, e := plane.Bounded(c.dim, c.planes); e != api.OK || joined(got) != joined(strings.Fields(c.bounded)) {
			t.Errorf("%s: Bounded = %v, %d, want %s", c.what, got, e, c.bounded)
		}
		if got, e := plane.Flats(c.dim, c.planes); e != api.OK || !alike(got, c.flats) {
			t.Errorf("%s: Flats = %v, %d, want %v", c.what, got, e, c.flats)
		}
		if got, e := plane.Poly(c.dim, c.planes); e != api.OK || !slices.Equal(got, c.poly) {
			t.Errorf("%s: Poly = %v, %d, want %v", c.what, got, e, c.poly)
		}
	}
}

// L2, L3: without a plane, all is one face, and it has no end.
func TestPlaneNone(t *testing.T) {
	for dim := 1; dim <= 3; dim++ {
		for _, none := range [][][]int{nil, {}} {
			if got, e := plane.Faces(dim, none); e != api.OK || len(got) != 1 || got[0] != "" {
				t.Errorf("%d: Faces = %q, %d", dim, got, e)
			}
			if got, e := plane.Regions(dim, none); e != api.OK || len(got) != 1 || got[0] != "" {
				t.Errorf("%d: Regions = %q, %d", dim, got, e)
			}
			if got, e := plane.Bounded(dim, none); e != api.OK || len(got) != 0 {
				t.Errorf("%d: Bounded = %q, %d", dim, got, e)
			}
			if got, e := plane.Flats(dim, none); e != api.OK || !alike(got, [][]int{{}}) {
				t.Errorf("%d: Flats = %v, %d", dim, got, e)
			}
			want := make([]int, dim+1)
			want[dim] = 1
			if got, e := plane.Poly(dim, none); e != api.OK || !slices.Equal(got, want) {
				t.Errorf("%d: Poly = %v, %d", dim, got, e)
			}
		}
	}
}

// L2, L3: a cube's six planes, and six of which no four meet, at the greatest numbers.
func TestPlaneMost(t *testing.T) {
	for _, c := range []struct {
		what                             string
		planes                           [][]int
		faces, regions, bounded, ofFlats int
		poly                             []int
	}{
		{"a cube", [][]int{{1, 0, 0, 0}, {1, 0, 0, 1}, {0, 1, 0, 0}, {0, 1, 0, 1}, {0, 0, 1, 0}, {0, 0, 1, 1}},
			125, 27, 1, 27, []int{-8, 12, -6, 1}},
		{"differences", [][]int{{1, -1, 0, 0}, {1, 0, -1, 0}, {0, 1, -1, 0}, {1, 0, 0, 0}, {0, 1, 0, 0}, {0, 0, 1, 0}},
			75, 24, 0, 15, []int{-6, 11, -6, 1}},
		{"all apart", [][]int{{20, 19, -20, 20}, {-20, 17, 20, 19}, {19, -20, 20, -20}, {20, 20, 17, 20}, {-19, 20, 13, -20}, {20, 7, 20, -20}},
			233, 42, 10, 42, []int{-20, 15, -6, 1}},
		{"one behind the other", parallels(3, 6), 13, 7, 0, 7, []int{0, 0, -6, 1}},
		{"around a line", [][]int{{1, 0, 0, 0}, {0, 1, 0, 0}, {1, 1, 0, 0}, {1, -1, 0, 0}, {20, 19, 0, 0}, {19, 20, 0, 0}},
			25, 12, 0, 8, []int{0, 5, -6, 1}},
	} {
		faces, e := plane.Faces(3, c.planes)
		regions, _ := plane.Regions(3, c.planes)
		bounded, _ := plane.Bounded(3, c.planes)
		flats, _ := plane.Flats(3, c.planes)
		poly, _ := plane.Poly(3, c.planes)
		if e != api.OK || len(faces) != c.faces || len(regions) != c.regions || len(bounded) != c.bounded || len(flats) != c.ofFlats || !slices.Equal(poly, c.poly) {
			t.Errorf("%s: %d faces, %d regions, %d bounded, %d flats, %v, %d, want %v", c.what, len(faces), len(regions), len(bounded), len(flats), poly, e, c)
		}
	}
}

// drawnPlanes are some planes that Check lets be, of small numbers, so that many meet.
func drawnPlanes(d *die, dim, many, most int) [][]int {
	planes := [][]int{}
	for len(planes) < many {
		next := append(slices.Clone(planes), d.list(dim+1, most))
		if plane.Check(dim, next) == api.OK {
			planes = next
		}
	}
	return planes
}

// mostPlanes: in one dimension numbers that are small make few planes.
func mostPlanes(dim int) int { return min(api.MaxPlanes, 2+dim) }

// allTexts of so many signs, in order.
func allTexts(many int) []string {
	all := []string{""}
	for range many {
		var longer []string
		for _, text := range all {
			longer = append(longer, text+"+", text+"-", text+"0")
		}
		all = longer
	}
	return all
}

// hasPlace: is there an x of these signs? There is, if some t above 0 can be taken
// off on all sides.
func hasPlace(dim int, planes [][]int, text string) bool {
	rows := [][]int{append(make([]int, dim), 1, 1)}
	for i, p := range planes {
		a, b := p[:dim], p[dim]
		back := make([]int, dim)
		for k, v := range a {
			back[k] = -v
		}
		switch text[i] {
		case '+':
			rows = append(rows, slices.Concat(back, []int{1, -b}))
		case '-':
			rows = append(rows, slices.Concat(a, []int{1, b}))
		case '0':
			rows = append(rows, slices.Concat(a, []int{0, b}), slices.Concat(back, []int{0, -b}))
		}
	}
	most, ok := leastLeft(dim, rows)
	return ok && most.Sign() > 0
}

// hasEnd: does each direction have a greatest place among those of these signs?
func hasEnd(dim int, planes [][]int, text string) bool {
	for k := range 2 * dim {
		ahead := make([]int, dim+2)
		ahead[k/2], ahead[dim] = k%2*2-1, 1
		rows := [][]int{ahead}
		for i, p := range planes {
			by := 1
			if text[i] == '+' {
				by = -1
			}
			row := make([]int, dim+2)
			for j := range dim {
				row[j] = by * p[j]
			}
			row[dim+1] = by * p[dim]
			rows = append(rows, row)
		}
		if most, ok := leastLeft(dim, rows); !ok || most == nil {
			return false
		}
	}
	return true
}

// L2
func TestPlaneFacesByWords(t *testing.T) {
	d := die(201)
	for round := range 45 {
		dim := 1 + round%3
		planes := drawnPlanes(&d, dim, d.below(5), 2)
		var faces, regions, bounded []string
		for _, text := range allTexts(len(planes)) {
			if !hasPlace(dim, planes, text) {
				continue
			}
			faces = append(faces, text)
			if strings.Contains(text, "0") {
				continue
			}
			regions = append(regions, text)
			if hasEnd(dim, planes, text) {
				bounded = append(bounded, text)
			}
		}
		if got, e := plane.Faces(dim, planes); e != api.OK || joined(got) != joined(faces) {
			t.Errorf("plane.Faces(%d, %v) = %v, %d, want %v", dim, planes, got, e, faces)
		}
		if got, e := plane.Regions(dim, planes); e != api.OK || joined(got) != joined(regions) {
			t.Errorf("plane.Regions(%d, %v) = %v, %d, want %v", dim, planes, got, e, regions)
		}
		if got, e := plane.Bounded(dim, planes); e != api.OK || joined(got) != joined(bounded) {
			t.Errorf("plane.Bounded(%d, %v) = %v, %d, want %v", dim, planes, got, e, bounded)
		}
	}
}

// signsAt are the signs of x by w.
func signsAt(planes [][]int, x []int, w int) string {
	var b strings.Builder
	for _, p := range planes {
		sum := -p[len(x)] * w
		for i, v := range x {
			sum += p[i] * v
		}
		b.WriteByte("-0+"[1+big.NewInt(int64(sum)).Sign()])
	}
	return b.String()
}

// L2: a place's signs are among them, whatever the place.
func TestPlaneFacesOfPlaces(t *testing.T) {
	d := die(202)
	for round := range 24 {
		dim := 1 + round%3
		planes := drawnPlanes(&d, dim, api.MaxPlanes, 4)
		faces, e := plane.Faces(dim, planes)
		if e != api.OK || !slices.IsSorted(faces) || len(slices.Compact(slices.Clone(faces))) != len(faces) {
			t.Errorf("plane.Faces(%d, %v) = %v, %d", dim, planes, faces, e)
		}
		for range 300 {
			x, w := d.list(dim, 1+d.below(30)), 1+d.below(12)
			if text := signsAt(planes, x, w); !slices.Contains(faces, text) {
				t.Errorf("%v, %v by %d: %s is none of %v", planes, x, w, text, faces)
			}
		}
	}
}

// shared: the ranks of some planes' a's, and of their a's and b's.
func shared(dim int, planes [][]int, s int) (ofA, ofAll int) {
	var short, long [][]int
	for i, p := range planes {
		if s>>i&1 == 1 {
			short, long = append(short, p[:dim]), append(long, p)
		}
	}
	if s == 0 {
		return 0, 0
	}
	return rankByMinors(short), rankByMinors(long)
}

// flatsByWords goes through all sets of planes, and adds to each those that go through
// all that they have in common.
func flatsByWords(dim int, planes [][]int) [][]int {
	var out [][]int
	seen := map[int]bool{}
	for rank := range dim + 1 {
		var those [][]int
		for s := range 1 << len(planes) {
			ofA, ofAll := shared(dim, planes, s)
			if ofA != rank || ofAll != ofA {
				continue
			}
			full, list := 0, []int{}
			for i := range planes {
				if _, more := shared(dim, planes, s|1<<i); more == ofAll {
					full, list = full|1<<i, append(list, i)
				}
			}
			if !seen[full] {
				seen[full] = true
				those = append(those, list)
			}
		}
		slices.SortFunc(those, slices.Compare[[]int])
		out = append(out, those...)
	}
	return out
}

// polyByWords adds up u by t's powers.
func polyByWords(dim int, planes, flats [][]int) []int {
	poly, us := make([]int, dim+1), make([]int, len(flats))
	for i, f := range flats {
		if us[i] = 1; i > 0 {
			us[i] = 0
		}
		for k, g := range flats[:i] {
			isWithin := true
			for _, p := range g {
				isWithin = isWithin && slices.Contains(f, p)
			}
			if isWithin {
				us[i] -= us[k]
			}
		}
		s := 0
		for _, p := range f {
			s |= 1 << p
		}
		rank, _ := shared(dim, planes, s)
		poly[dim-rank] += us[i]
	}
	return poly
}

// L3
func TestPlaneFlatsAndPolyByWords(t *testing.T) {
	d := die(203)
	for round := range 90 {
		dim := 1 + round%3
		planes := drawnPlanes(&d, dim, d.below(mostPlanes(dim)+1), 1+d.below(2))
		flats := flatsByWords(dim, planes)
		if got, e := plane.Flats(dim, planes); e != api.OK || !alike(got, flats) {
			t.Errorf("plane.Flats(%d, %v) = %v, %d, want %v", dim, planes, got, e, flats)
		}
		poly := polyByWords(dim, planes, flats)
		if got, e := plane.Poly(dim, planes); e != api.OK || !slices.Equal(got, poly) {
			t.Errorf("plane.Poly(%d, %v) = %v, %d, want %v", dim, planes, got, e, poly)
		}
	}
}

// Z2: nothing is written into, nothing behind it is read, nothing is shared.
func TestPlaneLists(t *testing.T) {
	was := [][]int{{2, 0, 0, 0}, {0, 3, 0, 3}, {0, 0, -1, 1}, {1, 1, 1, 3}}
	planes := roomyLists(was)
	faces, e := plane.Faces(3, planes)
	regions, _ := plane.Regions(3, planes)
	bounded, _ := plane.Bounded(3, planes)
	flats, _ := plane.Flats(3, planes)
	poly, _ := plane.Poly(3, planes)
	again, _ := plane.Faces(3, planes)
	regionsAgain, _ := plane.Regions(3, planes)
	boundedAgain, _ := plane.Bounded(3, planes)
	flatsAgain, _ := plane.Flats(3, planes)
	polyAgain, _ := plane.Poly(3, planes)
	if e != api.OK || len(bounded) != 1 || !untouchedLists(planes, was) {
		t.Errorf("%v: %v, %d", planes, bounded, e)
	}
	if !slices.Equal(faces, again) || !slices.Equal(regions, regionsAgain) || !slices.Equal(bounded, boundedAgain) || !alike(flats, flatsAgain) || !slices.Equal(poly, polyAgain) {
		t.Error("it was another one the second time")
	}
	if !apart(faces, regions, bounded, again, regionsAgain, boundedAgain) || !apart(flats, flatsAgain, planes) {
		t.Error("texts or lists share memory")
	}
	if !apart(slices.Concat(flats, flatsAgain, planes, [][]int{poly, polyAgain})...) {
		t.Error("numbers share memory")
	}
}
