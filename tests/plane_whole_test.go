package tests

import (
	"slices"
	"strings"
	"testing"

	"facet/api"
	"facet/plane"
)

// arrangement is all that is told of some planes.
type arrangement struct {
	faces, regions, bounded []string
	flats                   [][]int
	poly                    []int
}

func arranged(t *testing.T, dim int, planes [][]int) arrangement {
	t.Helper()
	var a arrangement
	var errors [5]api.Errno
	a.faces, errors[0] = plane.Faces(dim, planes)
	a.regions, errors[1] = plane.Regions(dim, planes)
	a.bounded, errors[2] = plane.Bounded(dim, planes)
	a.flats, errors[3] = plane.Flats(dim, planes)
	a.poly, errors[4] = plane.Poly(dim, planes)
	if errors != [5]api.Errno{} {
		t.Fatalf("%d, %v: %v", dim, planes, errors)
	}
	return a
}

// distance of a number from 0.
func distance(v int) int { return max(v, -v) }

// rankOfAll is the rank of all planes' a's.
func rankOfAll(dim int, planes [][]int) int {
	rank, _ := shared(dim, planes, 1<<len(planes)-1)
	return rank
}

// The whole, point 5: there are as many regions as the polynomial is at -1, and as many that
// have an end as it is at 1, if the planes leave no direction (Zaslavsky).
func TestPlanesPartAsTheirPolynomialSays(t *testing.T) {
	d := die(211)
	for round := range 120 {
		dim := 1 + round%3
		planes := drawnPlanes(&d, dim, d.below(mostPlanes(dim)+1), []int{1, 2, 3, api.MaxCut}[d.below(4)])
		a := arranged(t, dim, planes)
		if many := distance(at(a.poly, -1)); many != len(a.regions) {
			t.Errorf("%d, %v: %d regions, but the polynomial %v says %d", dim, planes, len(a.regions), a.poly, many)
		}
		many := distance(at(a.poly, 1))
		if rankOfAll(dim, planes) < dim {
			many = 0
		}
		if many != len(a.bounded) {
			t.Errorf("%d, %v: %d have an end, but the polynomial %v says %d", dim, planes, len(a.bounded), a.poly, many)
		}
	}
}

// The whole, point 5: the polynomial counts the places off all planes, modulo a prime that
// is greater than what the planes' numbers come to.
func TestPlanePolyCountsPlacesModuloPrimes(t *testing.T) {
	d := die(212)
	for round := range 36 {
		dim := 1 + round%3
		planes := drawnPlanes(&d, dim, d.below(mostPlanes(dim)+1), 1)
		poly, e := plane.Poly(dim, planes)
		for _, p := range []int{17, 19, 23} {
			off := 0
			for number := range power(p, dim) {
				var x []int
				for range dim {
					x = append(x, number%p)
					number /= p
				}
				isOn := func(plane []int) bool {
					sum := -plane[dim]
					for i, v := range x {
						sum += plane[i] * v
					}
					return sum%p == 0
				}
				if !slices.ContainsFunc(planes, isOn) {
					off++
				}
			}
			if e != api.OK || at(poly, p) != off {
				t.Errorf("plane.Poly(%d, %v) = %v, %d; modulo %d there are %d places", dim, planes, poly, e, p, off)
			}
		}
	}
}

// noughts of a text, by their numbers.
func noughts(text string) []int {
	list := []int{}
	for i := range len(text) {
		if text[i] == '0' {
			list = append(list, i)
		}
	}
	return list
}

// L2, L3: where a face has 0 is a flat, and each flat has such a face; and faces add up
// as Euler says: those of even dimension less those of odd, as all of space does.
func TestPlaneFacesLieInFlats(t *testing.T) {
	d := die(213)
	for round := range 60 {
		dim := 1 + round%3
		planes := drawnPlanes(&d, dim, d.below(mostPlanes(dim)+1), 1+d.below(3))
		a := arranged(t, dim, planes)
		var lists [][]int
		sum := 0
		for _, text := range a.faces {
			list := noughts(text)
			lists = append(lists, list)
			s := 0
			for _, i := range list {
				s |= 1 << i
			}
			rank, _ := shared(dim, planes, s)
			sum += 1 - rank%2*2
		}
		slices.SortFunc(lists, slices.Compare[[]int])
		flats := copied(a.flats)
		slices.SortFunc(flats, slices.Compare[[]int])
		if lists = slices.CompactFunc(lists, slices.Equal[[]int]); !alike(lists, flats) {
			t.Errorf("%d, %v: faces lie in %v, flats are %v", dim, planes, lists, flats)
		}
		if sum != 1 {
			t.Errorf("%d, %v: faces %v add up to %d", dim, planes, a.faces, sum)
		}
	}
}

// L2: regions are the faces without 0, and of them some have an end.
func TestPlaneRegionsAreFaces(t *testing.T) {
	d := die(214)
	for round := range 30 {
		dim := 1 + round%3
		a := arranged(t, dim, drawnPlanes(&d, dim, d.below(mostPlanes(dim)+1), 3))
		without := slices.DeleteFunc(slices.Clone(a.faces), func(text string) bool { return strings.Contains(text, "0") })
		if !slices.Equal(without, a.regions) {
			t.Errorf("faces %v, regions %v", a.faces, a.regions)
		}
		those := slices.DeleteFunc(slices.Clone(a.regions), func(text string) bool { return !slices.Contains(a.bounded, text) })
		if !slices.Equal(those, a.bounded) {
			t.Errorf("regions %v, with an end %v", a.regions, a.bounded)
		}
	}
}

// withinPlane: what the other planes are in the last one, which asks for x0 to be c; each once.
func withinPlane(planes [][]int, c int) [][]int {
	var out [][]int
	for _, p := range planes {
		rest := slices.Clone(p[1:])
		rest[len(rest)-1] -= p[0] * c
		if next := append(slices.Clone(out), rest); plane.Check(len(rest)-1, next) == api.OK {
			out = next
		}
	}
	return out
}

// The whole, point 5: a further plane adds as many regions as the others part it in; of the
// polynomial it takes that of what they are in it.
func TestPlaneOneMore(t *testing.T) {
	d := die(215)
	for round := range 60 {
		dim := 2 + round%2
		c := d.below(5) - 2
		last := make([]int, dim+1)
		last[0], last[dim] = 1, c
		planes := drawnPlanes(&d, dim, d.below(api.MaxPlanes), 1+d.below(3))
		all := append(copied(planes), last)
		if plane.Check(dim, all) != api.OK {
			continue
		}
		before, after, within := arranged(t, dim, planes), arranged(t, dim, all), arranged(t, dim-1, withinPlane(planes, c))
		if len(after.regions) != len(before.regions)+len(within.regions) {
			t.Errorf("%v and %v: %d regions, %d before, %d within", planes, last, len(after.regions), len(before.regions), len(within.regions))
		}
		for i, v := range after.poly {
			want := before.poly[i]
			if i < dim {
				want -= within.poly[i]
			}
			if v != want {
				t.Errorf("%v and %v: %v, before %v, within %v", planes, last, after.poly, before.poly, within.poly)
			}
		}
	}
}

// turnedSigns has + for -, and - for +, at one place of each text.
func turnedSigns(texts []string, at int) []string {
	var out []string
	for _, text := range texts {
		sign := map[byte]string{'+': "-", '-': "+", '0': "0"}[text[at]]
		out = append(out, text[:at]+sign+text[at+1:])
	}
	slices.Sort(out)
	return out
}

// L1, L2: a plane's numbers by 2 tell the same; by -1 its signs are turned, and nothing else.
func TestPlaneNumbersTurned(t *testing.T) {
	d := die(216)
	for round := range 30 {
		dim := 1 + round%3
		planes := drawnPlanes(&d, dim, 1+d.below(mostPlanes(dim)), 3)
		which := d.below(len(planes))
		twice, turned := copied(planes), copied(planes)
		for i, v := range planes[which] {
			twice[which][i], turned[which][i] = 2*v, -v
		}
		a, b, c := arranged(t, dim, planes), arranged(t, dim, twice), arranged(t, dim, turned)
		if !slices.Equal(a.faces, b.faces) || !slices.Equal(a.bounded, b.bounded) || !alike(a.flats, b.flats) || !slices.Equal(a.poly, b.poly) {
			t.Errorf("%v tell %v, %v tell %v", planes, a, twice, b)
		}
		if !slices.Equal(turnedSigns(a.faces, which), c.faces) || !slices.Equal(turnedSigns(a.regions, which), c.regions) || !slices.Equal(turnedSigns(a.bounded, which), c.bounded) {
			t.Errorf("%v tell %v, %v tell %v", planes, a, turned, c)
		}
		if !alike(a.flats, c.flats) || !slices.Equal(a.poly, c.poly) {
			t.Errorf("%v tell %v, %v tell %v", planes, a, turned, c)
		}
	}
}

// L2, L3: planes in another order have their signs in that order.
func TestPlaneOrder(t *testing.T) {
	d := die(217)
	for round := range 30 {
		dim := 1 + round%3
		planes := drawnPlanes(&d, dim, d.below(mostPlanes(dim)+1), 3)
		var behind [][]int
		for i := range planes {
			behind = append(behind, planes[len(planes)-1-i])
		}
		a, b := arranged(t, dim, planes), arranged(t, dim, behind)
		back := func(texts []string) []string {
			var out []string
			for _, text := range texts {
				signs := []byte(text)
				slices.Reverse(signs)
				out = append(out, string(signs))
			}
			slices.Sort(out)
			return out
		}
		if !slices.Equal(back(a.faces), b.faces) || !slices.Equal(back(a.regions), b.regions) || !slices.Equal(back(a.bounded), b.bounded) {
			t.Errorf("%v tell %v, %v tell %v", planes, a, behind, b)
		}
		if len(a.flats) != len(b.flats) || !slices.Equal(a.poly, b.poly) {
			t.Errorf("%v tell %v, %v tell %v", planes, a, behind, b)
		}
	}
}
