package tests

import (
	"math"
	"testing"

	"facet/api"
	"facet/matroid"
)

// M2
func TestMatroidDual(t *testing.T) {
	for _, c := range []struct {
		what    string
		m, want api.Matroid
	}{
		{"nothing", matroidOf(0, 0), matroidOf(0, 0)},
		{"all free", matroidOf(3, 7), matroidOf(3, 0)},
		{"none free", matroidOf(3, 0), matroidOf(3, 7)},
		{"two alike, one never free", matroidOf(3, 1, 2), matroidOf(3, 5, 6)},
		{"all pairs of four", uniform(4, 2), uniform(4, 2)},
		{"all of eight but one", uniform(8, 7), uniform(8, 1)},
	} {
		if got, e := matroid.Dual(c.m); e != api.OK || !sameMatroid(got, c.want) {
			t.Errorf("%s: matroid.Dual(%v) = %v, %d, want %v", c.what, c.m, got, e, c.want)
		}
	}
}

// M3
func TestMatroidDeleteAndContract(t *testing.T) {
	square := matroidOf(4, 5, 6, 9, 10) // 0 and 1 are alike, and 2 and 3
	mixed := matroidOf(4, 9, 12)        // 0 and 2 alike, 1 never free, 3 in all
	for _, c := range []struct {
		what      string
		m         api.Matroid
		i         int
		less, had api.Matroid
	}{
		{"the first of four", square, 0, matroidOf(3, 3, 5), matroidOf(3, 2, 4)},
		{"the second", square, 1, matroidOf(3, 3, 5), matroidOf(3, 2, 4)},
		{"the third", square, 2, matroidOf(3, 5, 6), matroidOf(3, 1, 2)},
		{"the last", square, 3, matroidOf(3, 5, 6), matroidOf(3, 1, 2)},
		{"what is never free", mixed, 1, matroidOf(3, 5, 6), matroidOf(3, 5, 6)},
		{"what is in all", mixed, 3, matroidOf(3, 1, 4), matroidOf(3, 1, 4)},
		{"one of two alike", mixed, 0, matroidOf(3, 6), matroidOf(3, 4)},
		{"the other one", mixed, 2, matroidOf(3, 5), matroidOf(3, 4)},
		{"the only thing, free", matroidOf(1, 1), 0, matroidOf(0, 0), matroidOf(0, 0)},
		{"the only thing, never free", matroidOf(1, 0), 0, matroidOf(0, 0), matroidOf(0, 0)},
		{"all pairs of four", uniform(4, 2), 1, uniform(3, 2), uniform(3, 1)},
		{"the last of eight", uniform(8, 4), 7, uniform(7, 4), uniform(7, 3)},
		{"all of eight", uniform(8, 8), 5, uniform(7, 7), uniform(7, 7)},
		{"none of eight", uniform(8, 0), 5, uniform(7, 0), uniform(7, 0)},
	} {
		if got, e := matroid.Delete(c.m, c.i); e != api.OK || !sameMatroid(got, c.less) {
			t.Errorf("%s: matroid.Delete(%v, %d) = %v, %d, want %v", c.what, c.m, c.i, got, e, c.less)
		}
		if got, e := matroid.Contract(c.m, c.i); e != api.OK || !sameMatroid(got, c.had) {
			t.Errorf("%s: matroid.Contract(%v, %d) = %v, %d, want %v", c.what, c.m, c.i, got, e, c.had)
		}
	}
}

// M3
func TestMatroidMinorErrors(t *testing.T) {
	for _, m := range []api.Matroid{matroidOf(0, 0), matroidOf(1, 1), uniform(4, 2), uniform(8, 4)} {
		for _, i := range []int{m.N, m.N + 1, -1, 63, 64, 1 << 40, math.MaxInt, math.MinInt} {
			if got, e := matroid.Delete(m, i); e != api.ErrPlace || !noMatroid(got) {
				t.Errorf("matroid.Delete(%v, %d) = %v, %d", m, i, got, e)
			}
			if got, e := matroid.Contract(m, i); e != api.ErrPlace || !noMatroid(got) {
				t.Errorf("matroid.Contract(%v, %d) = %v, %d", m, i, got, e)
			}
		}
	}
}

// M2, and the whole: what is left has a rank that the ranks tell; twice over it is as it was.
func TestMatroidDualByRanks(t *testing.T) {
	for _, m := range someMatroids(173) {
		all := 1<<m.N - 1
		want := ofRank(m.N, func(s int) int { return many(s) - rankByWords(m, all) + rankByWords(m, all&^s) })
		got, e := matroid.Dual(m)
		if e != api.OK || !sameMatroid(got, want) || matroid.Check(got) != api.OK {
			t.Errorf("matroid.Dual(%v) = %v, %d, want %v", m, got, e, want)
		}
		if back, e := matroid.Dual(got); e != api.OK || !sameMatroid(back, m) {
			t.Errorf("matroid.Dual(%v) = %v, %d, want %v", got, back, e, m)
		}
	}
}

// M3, and the whole: ranks of minors are those in m, with the thing or without it; and
// to have a thing is, turned over, to be without it.
func TestMatroidMinorsByRanks(t *testing.T) {
	for _, m := range someMatroids(174) {
		dual, _ := matroid.Dual(m)
		for i := range m.N {
			wantLess := ofRank(m.N-1, func(s int) int { return rankByWords(m, spreadOut(s, i)) })
			wantHad := ofRank(m.N-1, func(s int) int { return rankByWords(m, spreadOut(s, i)+1<<i) - rankByWords(m, 1<<i) })
			less, e := matroid.Delete(m, i)
			had, f := matroid.Contract(m, i)
			if e != api.OK || !sameMatroid(less, wantLess) || matroid.Check(less) != api.OK {
				t.Errorf("matroid.Delete(%v, %d) = %v, %d, want %v", m, i, less, e, wantLess)
			}
			if f != api.OK || !sameMatroid(had, wantHad) || matroid.Check(had) != api.OK {
				t.Errorf("matroid.Contract(%v, %d) = %v, %d, want %v", m, i, had, f, wantHad)
			}
			ofDual, e := matroid.Contract(dual, i)
			if back, f := matroid.Dual(ofDual); e != api.OK || f != api.OK || !sameMatroid(back, less) {
				t.Errorf("%v without %d: %v; turned over, with it, and turned over: %v", m, i, less, back)
			}
		}
	}
}

// The whole: in whichever order things go, what is left is the same.
func TestMatroidMinorsInAnyOrder(t *testing.T) {
	type way = func(api.Matroid, int) (api.Matroid, api.Errno)
	ways := []way{matroid.Delete, matroid.Contract}
	for _, m := range someMatroids(175) {
		for b := range m.N {
			for a := range b {
				for _, first := range ways {
					for _, second := range ways {
						lower, _ := first(m, a)
						lower, e := second(lower, b-1)
						upper, _ := second(m, b)
						upper, f := first(upper, a)
						if e != api.OK || f != api.OK || !sameMatroid(lower, upper) {
							t.Errorf("%v without %d and %d: %v or %v", m, a, b, lower, upper)
						}
					}
				}
			}
		}
	}
}
