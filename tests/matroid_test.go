package tests

import (
	"math"
	"slices"
	"testing"

	"facet/api"
	"facet/matroid"
)

type matroidCheckCase struct {
	what string
	m    api.Matroid
	want api.Errno
}

func matroidCheckCases() []matroidCheckCase {
	return []matroidCheckCase{
		{"nothing", matroidOf(0, 0), api.OK},
		{"one thing, free", matroidOf(1, 1), api.OK},
		{"one thing, never free", matroidOf(1, 0), api.OK},
		{"the document's", matroidOf(4, 3, 5, 6, 9, 10, 12), api.OK},
		{"the most things", uniform(8, 4), api.OK},
		{"eight things, all of them", matroidOf(8, 255), api.OK},
		{"two pairs of things that are alike", matroidOf(4, 5, 6, 9, 10), api.OK},
		{"seven points", sevenPoints(), api.OK},
		{"pairs of eight", pairsOfEight(), api.OK},
		{"below no things", matroidOf(-1, 0), api.ErrLimit},
		{"a thing too many", uniform(9, 1), api.ErrLimit},
		{"the least int", matroidOf(math.MinInt, 0), api.ErrLimit},
		{"the greatest int", matroidOf(math.MaxInt, 0), api.ErrLimit},
		{"64 things", matroidOf(64, 1), api.ErrLimit},
		{"a thing too many ahead of no basis", matroidOf(9), api.ErrLimit},
		{"no basis", matroidOf(3), api.ErrNone},
		{"no basis, not nil", api.Matroid{N: 3, Bases: []int{}}, api.ErrNone},
		{"no basis of nothing", matroidOf(0), api.ErrNone},
		{"a set of more things", matroidOf(3, 8), api.ErrValue},
		{"a set of more things, the last", matroidOf(3, 1, 2, 4, 8), api.ErrValue},
		{"nothing has a thing", matroidOf(0, 1), api.ErrValue},
		{"eight things, 256", matroidOf(8, 128, 256), api.ErrValue},
		{"below 0", matroidOf(3, -1), api.ErrValue},
		{"the least int as a set", matroidOf(8, math.MinInt), api.ErrValue},
		{"the greatest int as a set", matroidOf(8, math.MaxInt), api.ErrValue},
		{"twice", matroidOf(3, 1, 1), api.ErrForm},
		{"nothing, twice", matroidOf(0, 0, 0), api.ErrForm},
		{"falling", matroidOf(3, 2, 1), api.ErrForm},
		{"falling behind rising", matroidOf(3, 1, 4, 2), api.ErrForm},
		{"falling, but above the first", matroidOf(4, 1, 8, 4), api.ErrForm},
		{"another number of things", matroidOf(3, 1, 3), api.ErrForm},
		{"another number than the first, as the one ahead", matroidOf(3, 1, 2, 6), api.ErrForm},
		{"no thing ahead of one", matroidOf(2, 0, 1), api.ErrForm},
		{"two sets with nothing in common", matroidOf(4, 3, 12), api.ErrForm},
		{"one of them can't be given", matroidOf(4, 3, 5, 12), api.ErrForm},
		{"of three things each", matroidOf(6, 7, 56), api.ErrForm},
		{"a form ahead of the next one's value", matroidOf(3, 1, 3, 9), api.ErrForm},
		{"a value ahead of its form", matroidOf(3, 4, -1), api.ErrValue},
		{"a value of other size, falling", matroidOf(3, 5, 9, 8), api.ErrValue},
		{"a value ahead of the next one's form", matroidOf(3, 1, 9, 3), api.ErrValue},
		{"a value ahead of what can be swapped", matroidOf(4, 3, 12, 17), api.ErrValue},
		{"a form where nothing can be swapped either", matroidOf(4, 12, 3), api.ErrForm},
	}
}

// M1: Check, and all calls say that first.
func TestMatroidCheck(t *testing.T) {
	for _, c := range matroidCheckCases() {
		if got := matroid.Check(c.m); got != c.want {
			t.Errorf("%s: matroid.Check(%v) = %d, want %d", c.what, c.m, got, c.want)
		}
		for _, i := range []int{0, -1, 99, math.MinInt} {
			checkSaidFirst(t, c, i)
		}
	}
}

// checkSaidFirst: where a matroid may not be, whatever else is wrong says nothing.
func checkSaidFirst(t *testing.T, c matroidCheckCase, i int) {
	t.Helper()
	if c.want == api.OK {
		return
	}
	if got, e := matroid.Rank(c.m, i); e != c.want || got != 0 {
		t.Errorf("%s: matroid.Rank(%v, %d) = %d, %d, want error %d", c.what, c.m, i, got, e, c.want)
	}
	for name, call := range map[string]func(api.Matroid) ([]int, api.Errno){"Circuits": matroid.Circuits, "Flats": matroid.Flats} {
		if got, e := call(c.m); e != c.want || len(got) != 0 {
			t.Errorf("%s: matroid.%s(%v) = %v, %d, want error %d", c.what, name, c.m, got, e, c.want)
		}
	}
	if got, e := matroid.Dual(c.m); e != c.want || !noMatroid(got) {
		t.Errorf("%s: matroid.Dual(%v) = %v, %d, want error %d", c.what, c.m, got, e, c.want)
	}
	for name, call := range map[string]func(api.Matroid, int) (api.Matroid, api.Errno){"Delete": matroid.Delete, "Contract": matroid.Contract} {
		if got, e := call(c.m, i); e != c.want || !noMatroid(got) {
			t.Errorf("%s: matroid.%s(%v, %d) = %v, %d, want error %d", c.what, name, c.m, i, got, e, c.want)
		}
	}
	for _, weights := range [][]int{nil, {i}, {1, 2, i}, {1, 2, 3, 4}} {
		if basis, weight, e := matroid.Greedy(c.m, weights); e != c.want || basis != 0 || weight != 0 {
			t.Errorf("%s: matroid.Greedy(%v, %v) = %d, %d, %d, want error %d", c.what, c.m, weights, basis, weight, e, c.want)
		}
	}
}

// M1: of all sets of sets of few things, those are matroids in which things can be
// swapped; there are as many as is known.
func TestMatroidCheckAll(t *testing.T) {
	for n, want := range []int{1, 2, 5, 16, 68, 406} {
		found := 0
		for size := range n + 1 {
			families(n, size, func(bases []int) {
				m := matroidOf(n, bases...)
				wanted := api.ErrForm
				if canSwap(n, bases) {
					wanted = api.OK
					found++
				}
				if got := matroid.Check(m); got != wanted {
					t.Errorf("matroid.Check(%v) = %d, want %d", m, got, wanted)
				}
			})
		}
		if found != want {
			t.Errorf("%d matroids of %d things, want %d", found, n, want)
		}
	}
}

// M1: what is no matroid though just one basis is too few.
func TestMatroidCheckOneLess(t *testing.T) {
	for _, m := range []api.Matroid{pairsOfEight(), sevenPoints(), matroidOf(5, setsOf(5, 2)...)} {
		for i := range m.Bases {
			less := matroidOf(m.N, slices.Delete(slices.Clone(m.Bases), i, i+1)...)
			want := api.ErrForm
			if canSwap(less.N, less.Bases) {
				want = api.OK
			}
			if got := matroid.Check(less); got != want {
				t.Errorf("matroid.Check(%v) = %d, want %d", less, got, want)
			}
		}
	}
}

// M2
func TestMatroidRank(t *testing.T) {
	square, loose := matroidOf(4, 3, 5, 6, 9, 10, 12), matroidOf(3, 1, 2)
	for _, c := range []struct {
		what string
		m    api.Matroid
		s    int
		want int
		e    api.Errno
	}{
		{"nothing of nothing", matroidOf(0, 0), 0, 0, api.OK},
		{"no set of nothing", matroidOf(0, 0), 1, 0, api.ErrValue},
		{"nothing", square, 0, 0, api.OK},
		{"one thing", square, 4, 1, api.OK},
		{"two", square, 9, 2, api.OK},
		{"three", square, 14, 2, api.OK},
		{"all", square, 15, 2, api.OK},
		{"two of which one is never free", loose, 6, 1, api.OK},
		{"what is never free", loose, 4, 0, api.OK},
		{"two alike", loose, 3, 1, api.OK},
		{"three points of a line", sevenPoints(), 7, 2, api.OK},
		{"three points", sevenPoints(), 11, 3, api.OK},
		{"all of eight", pairsOfEight(), 255, 4, api.OK},
		{"a thing that isn't there", square, 16, 0, api.ErrValue},
		{"below 0", square, -1, 0, api.ErrValue},
		{"the greatest int", square, math.MaxInt, 0, api.ErrValue},
		{"the least int", square, math.MinInt, 0, api.ErrValue},
	} {
		if got, e := matroid.Rank(c.m, c.s); got != c.want || e != c.e {
			t.Errorf("%s: matroid.Rank(%v, %d) = %d, %d, want %d, %d", c.what, c.m, c.s, got, e, c.want, c.e)
		}
	}
}

// M2
func TestMatroidCircuitsAndFlats(t *testing.T) {
	for _, c := range []struct {
		what            string
		m               api.Matroid
		circuits, flats []int
	}{
		{"the document's", matroidOf(4, 3, 5, 6, 9, 10, 12), []int{7, 11, 13, 14}, []int{0, 1, 2, 4, 8, 15}},
		{"nothing", matroidOf(0, 0), nil, []int{0}},
		{"one thing, free", matroidOf(1, 1), nil, []int{0, 1}},
		{"one thing, never free", matroidOf(1, 0), []int{1}, []int{1}},
		{"all free", matroidOf(3, 7), nil, []int{0, 1, 2, 3, 4, 5, 6, 7}},
		{"none free", matroidOf(3, 0), []int{1, 2, 4}, []int{7}},
		{"two alike, one never free", matroidOf(3, 1, 2), []int{3, 4}, []int{4, 7}},
		{"one way around all", matroidOf(3, 3, 5, 6), []int{7}, []int{0, 1, 2, 4, 7}},
		{"seven points", sevenPoints(), []int{7, 25, 30, 42, 45, 51, 52, 75, 76, 82, 85, 97, 102, 120}, []int{0, 1, 2, 4, 7, 8, 16, 25, 32, 42, 52, 64, 76, 82, 97, 127}},
	} {
		if got, e := matroid.Circuits(c.m); e != api.OK || !slices.Equal(got, c.circuits) {
			t.Errorf("%s: matroid.Circuits(%v) = %v, %d, want %v", c.what, c.m, got, e, c.circuits)
		}
		if got, e := matroid.Flats(c.m); e != api.OK || !slices.Equal(got, c.flats) {
			t.Errorf("%s: matroid.Flats(%v) = %v, %d, want %v", c.what, c.m, got, e, c.flats)
		}
	}
}

// M2
func TestMatroidByWords(t *testing.T) {
	for _, m := range someMatroids(171) {
		var circuits, flats []int
		for s := range 1 << m.N {
			rank := rankByWords(m, s)
			if got, e := matroid.Rank(m, s); e != api.OK || got != rank {
				t.Errorf("matroid.Rank(%v, %d) = %d, %d, want %d", m, s, got, e, rank)
			}
			isCircuit, isFlat := !isFreeIn(m, s), true
			for i := range m.N {
				if s>>i&1 == 1 {
					isCircuit = isCircuit && isFreeIn(m, s-1<<i)
				} else {
					isFlat = isFlat && rankByWords(m, s+1<<i) > rank
				}
			}
			if isCircuit {
				circuits = append(circuits, s)
			}
			if isFlat {
				flats = append(flats, s)
			}
		}
		if got, e := matroid.Circuits(m); e != api.OK || !slices.Equal(got, circuits) {
			t.Errorf("matroid.Circuits(%v) = %v, %d, want %v", m, got, e, circuits)
		}
		if got, e := matroid.Flats(m); e != api.OK || !slices.Equal(got, flats) {
			t.Errorf("matroid.Flats(%v) = %v, %d, want %v", m, got, e, flats)
		}
	}
}

// The whole: flats have in common what is a flat; of two circuits with a thing in common
// there is one in what they have without it; ranks of sets together are never more than apart.
func TestMatroidWhole(t *testing.T) {
	for _, m := range someMatroids(172) {
		flats, _ := matroid.Flats(m)
		for _, a := range flats {
			for _, b := range flats {
				if !slices.Contains(flats, a&b) {
					t.Errorf("%v: %d and %d are flats, not what they have in common", m, a, b)
				}
			}
		}
		circuits, _ := matroid.Circuits(m)
		for _, a := range circuits {
			for _, b := range circuits {
				for i := range m.N {
					without := (a | b) &^ (1 << i)
					if a != b && a&b>>i&1 == 1 && !slices.ContainsFunc(circuits, func(c int) bool { return c|without == without }) {
						t.Errorf("%v: %d and %d are circuits, and there is none in %d", m, a, b, without)
					}
				}
			}
		}
	}
	m := pairsOfEight()
	rank := make([]int, 256)
	for s := range rank {
		rank[s], _ = matroid.Rank(m, s)
	}
	for a := range rank {
		for b := range rank {
			if rank[a|b]+rank[a&b] > rank[a]+rank[b] {
				t.Errorf("%v: %d and %d have together more than apart", m, a, b)
			}
		}
	}
}

// Z2
func TestMatroidLists(t *testing.T) {
	was := []int{3, 5, 6, 9, 10, 12}
	m := api.Matroid{N: 4, Bases: roomy(was)}
	var lists [][]int
	for range 2 {
		circuits, e := matroid.Circuits(m)
		flats, f := matroid.Flats(m)
		dual, g := matroid.Dual(m)
		less, h := matroid.Delete(m, 1)
		had, i := matroid.Contract(m, 1)
		_, j := matroid.Rank(m, 7)
		_, _, k := matroid.Greedy(m, []int{1, 2, 3, 4})
		if e+f+g+h+i+j+k+matroid.Check(m) != api.OK || !untouched(m.Bases, was) {
			t.Errorf("%v: %v, %v, %v, %v, %v", m, circuits, flats, dual, less, had)
		}
		lists = append(lists, circuits, flats, dual.Bases, less.Bases, had.Bases)
	}
	for i := range 5 {
		if len(lists[i]) == 0 || !slices.Equal(lists[i], lists[i+5]) {
			t.Errorf("%v, then %v", lists[i], lists[i+5])
		}
	}
	if !apart(append(lists, m.Bases)...) {
		t.Error("lists share memory")
	}
}
