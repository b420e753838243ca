package tests

import (
	"fmt"
	"math"
	"runtime"
	"slices"
	"sync"
	"testing"
	"time"

	"facet/api"
	"facet/face"
	"facet/work"
)

// tallied is what work.Counts answers.
type tallied struct {
	counts     [][]int
	sum, wrong int
	e          api.Errno
}

func talliedBy(l []api.Polytope, hands int) tallied {
	counts, sum, wrong, e := work.Counts(l, hands)
	return tallied{counts, sum, wrong, e}
}

func (a tallied) is(b tallied) bool {
	return alike(a.counts, b.counts) && a.sum == b.sum && a.wrong == b.wrong && a.e == b.e
}

// tallyByWords goes by the words of X1, one polytope behind the other.
func tallyByWords(l []api.Polytope) tallied {
	var out tallied
	for _, p := range l {
		counts, e := face.Counts(p)
		if e != api.OK {
			out.wrong++
			counts = nil
		}
		for _, many := range counts {
			out.sum += many
		}
		out.counts = append(out.counts, counts)
	}
	return out
}

// mixedJobs are so many polytopes, hard ones and easy ones, some of which may not be.
func mixedJobs(d *die, many int) []api.Polytope {
	wrong := hullCheckCases()
	l := make([]api.Polytope, many)
	for i := range l {
		switch d.below(12) {
		case 0, 1:
			l[i] = wrong[d.below(len(wrong))].p
		case 2:
			l[i] = crowded()
		case 3, 4:
			l[i] = bodyOf(1, []int{0}, []int{1 + d.below(9)})
		default:
			l[i] = drawn(d, 1+d.below(4))
		}
	}
	return l
}

// X1: what is known of each, however many hands there are.
func TestWorkCounts(t *testing.T) {
	segment, square := bodyOf(1, []int{0}, []int{1}), cube(2, 0, 1)
	flat, none := bodyOf(2, []int{0, 0}, []int{1, 1}), api.Polytope{}
	of1, of2 := []int{1, 2, 1}, []int{1, 4, 4, 1}
	of3, of4 := []int{1, 8, 12, 6, 1}, []int{1, 24, 276, 504, 252, 1}
	for _, c := range []struct {
		what string
		l    []api.Polytope
		want tallied
	}{
		{"no list", nil, tallied{}},
		{"no polytope", []api.Polytope{}, tallied{}},
		{"a segment", []api.Polytope{segment}, tallied{counts: [][]int{of1}, sum: 4}},
		{"nothing", []api.Polytope{none}, tallied{counts: [][]int{nil}, wrong: 1}},
		{"nothing, again and again", slices.Repeat([]api.Polytope{none, flat}, 9), tallied{counts: make([][]int, 18), wrong: 18}},
		{"two", []api.Polytope{square, segment}, tallied{counts: [][]int{of2, of1}, sum: 14}},
		{"two, the other way round", []api.Polytope{segment, square}, tallied{counts: [][]int{of1, of2}, sum: 14}},
		{"some may not be", []api.Polytope{flat, square, none, none, segment, flat}, tallied{counts: [][]int{nil, of2, nil, nil, of1, nil}, sum: 14, wrong: 4}},
		{"the hard one first", []api.Polytope{crowded(), segment, square, cube(3, 0, 1)}, tallied{counts: [][]int{of4, of1, of2, of3}, sum: 1058 + 4 + 10 + 28}},
		{"the hard one last", []api.Polytope{cube(3, 0, 1), square, segment, crowded()}, tallied{counts: [][]int{of3, of2, of1, of4}, sum: 1058 + 4 + 10 + 28}},
		{"the most", slices.Repeat([]api.Polytope{square}, api.MaxJobs), tallied{counts: repeat(of2, api.MaxJobs), sum: 10 * api.MaxJobs}},
	} {
		for hands := 1; hands <= api.MaxHands; hands++ {
			if got := talliedBy(c.l, hands); !got.is(c.want) {
				t.Errorf("%s, %d hands: Counts = %v, want %v", c.what, hands, got, c.want)
			}
		}
	}
}

// X1: all polytopes whose faces are known, at once.
func TestWorkCountsOfTheKnown(t *testing.T) {
	var l []api.Polytope
	var want tallied
	for _, c := range faceCountsCases() {
		l = append(l, c.p)
		want.counts = append(want.counts, c.counts)
		for _, many := range c.counts {
			want.sum += many
		}
	}
	for _, c := range hullCheckCases() {
		if len(l) == api.MaxJobs {
			break
		}
		if c.want != api.OK {
			l = append(l, c.p)
			want.counts = append(want.counts, nil)
			want.wrong++
		}
	}
	for hands := 1; hands <= api.MaxHands; hands++ {
		if got := talliedBy(l, hands); !got.is(want) {
			t.Errorf("%d hands: Counts = %v, want %v", hands, got, want)
		}
	}
}

// X1, Z1: too many polytopes are told ahead of a number of hands that may not be; and nothing beside it.
func TestWorkErrors(t *testing.T) {
	square := cube(2, 0, 1)
	noHands := []int{0, -1, api.MaxHands + 1, 60, -8, math.MaxInt, math.MinInt, 1 << 32, 1<<32 + 1}
	for _, many := range []int{0, 1, 7, api.MaxJobs, api.MaxJobs + 1, 1000} {
		for _, p := range []api.Polytope{square, {}} {
			l := slices.Repeat([]api.Polytope{p}, many)
			for _, hands := range append(noHands, 1, 2, api.MaxHands) {
				want := api.OK
				if slices.Contains(noHands, hands) {
					want = api.ErrCount
				}
				if many > api.MaxJobs {
					want = api.ErrLimit
				}
				got := talliedBy(l, hands)
				if got.e != want {
					t.Errorf("%d polytopes, %d hands: error %d, want %d", many, hands, got.e, want)
				}
				if want != api.OK && (len(got.counts) != 0 || got.sum != 0 || got.wrong != 0) {
					t.Errorf("%d polytopes, %d hands: beside an error %v", many, hands, got)
				}
			}
		}
	}
}

// X1, the whole's point 7: whoever is first, and however many hands there are, it is what one behind the other gives.
func TestWorkIsAlwaysTheSame(t *testing.T) {
	d := die(221)
	for round := range 12 {
		l := mixedJobs(&d, []int{60, 1, 2, 17, 3, 8, 59, 9, 30, 4, 7, 60}[round])
		want := tallyByWords(l)
		for hands := 1; hands <= api.MaxHands; hands++ {
			for range 2 {
				if got := talliedBy(l, hands); !got.is(want) {
					t.Fatalf("%v, %d hands: Counts = %v, want %v", l, hands, got, want)
				}
			}
		}
	}
}

// X1: with one processor or many the hands run in other orders.
func TestWorkOnFewProcessors(t *testing.T) {
	defer runtime.GOMAXPROCS(runtime.GOMAXPROCS(0))
	d := die(222)
	l := mixedJobs(&d, api.MaxJobs)
	want := tallyByWords(l)
	for _, many := range []int{1, 2, 3, 8, 16} {
		runtime.GOMAXPROCS(many)
		for _, hands := range []int{1, 2, 5, api.MaxHands} {
			if got := talliedBy(l, hands); !got.is(want) {
				t.Errorf("%d processors, %d hands: Counts = %v, want %v", many, hands, got, want)
			}
		}
	}
}

// X1: easy polytopes, over and over: what hands add at the same time is not lost.
func TestWorkLosesNothing(t *testing.T) {
	l := slices.Repeat([]api.Polytope{bodyOf(1, []int{0}, []int{1}), {}}, api.MaxJobs/2)
	want := tallied{counts: slices.Repeat([][]int{{1, 2, 1}, nil}, api.MaxJobs/2), sum: 2 * api.MaxJobs, wrong: api.MaxJobs / 2}
	for range 1500 {
		if got := talliedBy(l, api.MaxHands); !got.is(want) {
			t.Fatalf("Counts = %v, want %v", got, want)
		}
	}
}

// X1, Z2: calls at the same time, of the same polytopes, don't see each other.
func TestWorkManyCallsAtOnce(t *testing.T) {
	d := die(223)
	l := mixedJobs(&d, 40)
	want := tallyByWords(l)
	got := make([]tallied, 16)
	var all sync.WaitGroup
	for i := range got {
		all.Go(func() { got[i] = talliedBy(l, 1+i%api.MaxHands) })
	}
	all.Wait()
	for i := range got {
		if !got[i].is(want) {
			t.Errorf("call %d: Counts = %v, want %v", i, got[i], want)
		}
	}
}

// Z1: no hand is left when a call has answered, with an error or without.
func TestWorkLeavesNoHands(t *testing.T) {
	d := die(224)
	jobs := mixedJobs(&d, api.MaxJobs)
	before := runtime.NumGoroutine()
	for _, many := range []int{0, 1, 5, api.MaxJobs} {
		for hands := range api.MaxHands + 2 {
			talliedBy(jobs[:many], hands)
			talliedBy(append(slices.Clone(jobs), jobs[0]), hands)
		}
	}
	left := runtime.NumGoroutine()
	for range 200 { // a hand that has said that it ended is there for a moment still
		if left = runtime.NumGoroutine(); left <= before {
			return
		}
		time.Sleep(5 * time.Millisecond)
	}
	t.Errorf("%d goroutines, %d before", left, before)
}

// Z2: nothing is written into or read behind its end; no two lists share memory, of one call or two.
func TestWorkLists(t *testing.T) {
	bodies := []api.Polytope{roof(), {}, cross(3, 2), cube(2, 0, 1), bodyOf(2, []int{0, 0}, []int{1, 1}), cube(2, 0, 1), tower()}
	for hands := 1; hands <= api.MaxHands; hands++ {
		var l []api.Polytope
		for _, p := range bodies {
			l = append(l, api.Polytope{Dim: p.Dim, Points: roomyLists(p.Points)})
		}
		behind := cube(4, 0, 1)
		room := append(slices.Clone(l), behind, behind)
		a, b := talliedBy(room[:len(l)], hands), talliedBy(room[:len(l)], hands)
		if want := tallyByWords(bodies); !a.is(want) || !b.is(want) {
			t.Errorf("%d hands: Counts = %v and %v, want %v", hands, a, b, want)
		}
		if !apart(slices.Concat(a.counts, b.counts)...) || !apart(a.counts, b.counts) {
			t.Errorf("%d hands: lists share memory", hands)
		}
		for i, p := range room[:len(l)] {
			if p.Dim != bodies[i].Dim || !untouchedLists(p.Points, bodies[i].Points) {
				t.Errorf("%d hands: polytope %d became %v", hands, i, p)
			}
		}
		for i, p := range room[len(l):] {
			if fmt.Sprint(p) != fmt.Sprint(behind) {
				t.Errorf("%d hands: behind the list, polytope %d became %v", hands, i, p)
			}
		}
		for _, counts := range a.counts { // what is the caller's may be changed
			for k := range counts {
				counts[k] = mark
			}
		}
		if c := talliedBy(l, hands); !c.is(b) {
			t.Errorf("%d hands: Counts = %v, and then %v", hands, b, c)
		}
	}
}
