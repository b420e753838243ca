package tests

import (
	"math"
	"math/big"
	"slices"
	"testing"

	"facet/api"
	"facet/tropic"
)

type tropicCheckCase struct {
	what string
	l    []int
	want api.Errno
}

func tropicCheckCases() []tropicCheckCase {
	return []tropicCheckCase{
		{"one number", []int{7}, api.OK},
		{"the most numbers", make([]int, 20), api.OK},
		{"the bounds", []int{10000, -10000}, api.OK},
		{"nil", nil, api.ErrCount},
		{"none", []int{}, api.ErrCount},
		{"one too many", make([]int, 21), api.ErrCount},
		{"one too many, one of them beyond", append(make([]int, 20), 10001), api.ErrCount},
		{"above", []int{10001}, api.ErrValue},
		{"below", []int{0, 0, -10001}, api.ErrValue},
		{"the greatest int", []int{0, math.MaxInt, 0}, api.ErrValue},
		{"the least int", []int{math.MinInt, 0}, api.ErrValue},
	}
}

// N1
func TestTropicCheck(t *testing.T) {
	for _, c := range tropicCheckCases() {
		if got := tropic.Check(c.l); got != c.want {
			t.Errorf("%s: tropic.Check(%v) = %d, want %d", c.what, c.l, got, c.want)
		}
		for _, x := range []int{0, 3, 10001, math.MinInt} {
			if got, e := tropic.At(c.l, x); c.want != api.OK && (e != c.want || got != 0) {
				t.Errorf("%s: tropic.At(%v, %d) = %d, %d, want error %d", c.what, c.l, x, got, e, c.want)
			}
		}
		if got, e := tropic.Roots(c.l); e != c.want || e != api.OK && len(got) != 0 {
			t.Errorf("%s: tropic.Roots(%v) = %v, %d, want error %d", c.what, c.l, got, e, c.want)
		}
	}
}

// N1
func TestTropicAt(t *testing.T) {
	far := append(slices.Repeat([]int{10000}, 19), 0)
	for _, c := range []struct {
		what string
		l    []int
		x    int
		want int
		e    api.Errno
	}{
		{"one number alone", []int{-4}, 9, -4, api.OK},
		{"the first", []int{3, 1, 0, 2}, 5, 3, api.OK},
		{"the second", []int{3, 1, 0, 2}, 1, 2, api.OK},
		{"the third", []int{3, 1, 0, 2}, 0, 0, api.OK},
		{"the last", []int{3, 1, 0, 2}, -3, -7, api.OK},
		{"the greatest place", far, 10000, 10000, api.OK},
		{"the least place", far, -10000, -190000, api.OK},
		{"beyond it, above", []int{1}, 10001, 0, api.ErrPlace},
		{"beyond it, below", []int{1}, -10001, 0, api.ErrPlace},
		{"the greatest int", []int{1, 2}, math.MaxInt, 0, api.ErrPlace},
		{"the least int", []int{1, 2}, math.MinInt, 0, api.ErrPlace},
	} {
		if got, e := tropic.At(c.l, c.x); got != c.want || e != c.e {
			t.Errorf("%s: tropic.At(%v, %d) = %d, %d, want %d, %d", c.what, c.l, c.x, got, e, c.want, c.e)
		}
	}
}

// toldAs has the roots as over, under, many.
func toldAs(roots []api.Met) [][3]int {
	var out [][3]int
	for _, r := range roots {
		out = append(out, [3]int{r.Over, r.Under, r.Many})
	}
	return out
}

// N1
func TestTropicRoots(t *testing.T) {
	for _, c := range []struct {
		what string
		l    []int
		want [][3]int
	}{
		{"the document's", []int{3, 1, 0, 2}, [][3]int{{-2, 1, 1}, {1, 1, 1}, {2, 1, 1}}},
		{"one number", []int{5}, nil},
		{"two", []int{5, 3}, [][3]int{{2, 1, 1}}},
		{"at 0", []int{4, 4}, [][3]int{{0, 1, 1}}},
		{"at 0 by 1, once for all", []int{4, 4, 4, 4}, [][3]int{{0, 1, 3}}},
		{"at 0, some above", []int{4, 9, 5, 4}, [][3]int{{0, 1, 3}}},
		{"a quotient", []int{0, 9, 1}, [][3]int{{-1, 2, 2}}},
		{"a quotient above 0", []int{1, 9, 0}, [][3]int{{1, 2, 2}}},
		{"lowered", []int{2, 9, 9, 9, 0}, [][3]int{{1, 2, 4}}},
		{"three at once", []int{2, 1, 0}, [][3]int{{1, 1, 2}}},
		{"one of them never the least", []int{0, 5, 0, 5}, [][3]int{{-5, 1, 1}, {0, 1, 2}}},
		{"rising as quotients do", []int{4, 9, 1, 9, 9, 0}, [][3]int{{1, 3, 3}, {3, 2, 2}}},
		{"rising below 0", []int{0, 9, 1, 9, 9, 9, 9, 8}, [][3]int{{-7, 5, 5}, {-1, 2, 2}}},
		{"the greatest", []int{10000, -10000}, [][3]int{{20000, 1, 1}}},
		{"the least", []int{-10000, 10000}, [][3]int{{-20000, 1, 1}}},
	} {
		if got, e := tropic.Roots(c.l); e != api.OK || !slices.Equal(toldAs(got), c.want) {
			t.Errorf("%s: tropic.Roots(%v) = %v, %d, want %v", c.what, c.l, got, e, c.want)
		}
	}
}

// leastAt are the numbers i of which l[i] + i x is the least.
func leastAt(l []int, x *big.Rat) []int {
	var out []int
	var least *big.Rat
	for i, v := range l {
		at := new(big.Rat).Mul(x, big.NewRat(int64(i), 1))
		at.Add(at, big.NewRat(int64(v), 1))
		if least == nil || at.Cmp(least) < 0 {
			least, out = at, nil
		}
		if at.Cmp(least) == 0 {
			out = append(out, i)
		}
	}
	return out
}

// rootsByWords goes by N1.
func rootsByWords(l []int) []api.Met {
	var places []*big.Rat
	for k := range l {
		for i := range k {
			places = append(places, big.NewRat(int64(l[i]-l[k]), int64(k-i)))
		}
	}
	slices.SortFunc(places, (*big.Rat).Cmp)
	places = slices.CompactFunc(places, func(a, b *big.Rat) bool { return a.Cmp(b) == 0 })
	var out []api.Met
	for _, x := range places {
		if least := leastAt(l, x); len(least) > 1 {
			out = append(out, api.Met{Over: int(x.Num().Int64()), Under: int(x.Denom().Int64()), Many: least[len(least)-1] - least[0]})
		}
	}
	return out
}

// N1
func TestTropicRootsByWords(t *testing.T) {
	d := die(141)
	for round := range 600 {
		l := d.list(1+d.below(20), []int{1, 5, 60, api.MaxEntry}[round%4])
		if got, e := tropic.Roots(l); e != api.OK || !slices.Equal(got, rootsByWords(l)) {
			t.Errorf("tropic.Roots(%v) = %v, %d, want %v", l, got, e, rootsByWords(l))
		}
	}
}

// byRoots is l's last number and, of each root as often as it is there, the lesser one of x and it.
func byRoots(l []int, roots []api.Met, x int) *big.Rat {
	sum := big.NewRat(int64(l[len(l)-1]), 1)
	for _, r := range roots {
		lesser, root := big.NewRat(int64(x), 1), big.NewRat(int64(r.Over), int64(r.Under))
		if root.Cmp(lesser) < 0 {
			lesser = root
		}
		sum.Add(sum, lesser.Mul(lesser, big.NewRat(int64(r.Many), 1)))
	}
	return sum
}

// The whole: a list has as many roots as it has numbers behind the first, and its roots tell it at each place.
func TestTropicRootsTellAll(t *testing.T) {
	d := die(142)
	for round := range 300 {
		l := d.list(1+d.below(20), []int{1, 5, 60, 2000}[round%4])
		roots, e := tropic.Roots(l)
		many := 0
		for _, r := range roots {
			many += r.Many
		}
		if e != api.OK || many != len(l)-1 {
			t.Errorf("tropic.Roots(%v) = %v, %d: %d of them", l, roots, e, many)
		}
		for _, x := range append(d.list(8, 5), d.list(4, api.MaxEntry)...) {
			if got, e := tropic.At(l, x); e != api.OK || byRoots(l, roots, x).Cmp(big.NewRat(int64(got), 1)) != 0 {
				t.Errorf("tropic.At(%v, %d) = %d, %d; by its roots %v it is %v", l, x, got, e, roots, byRoots(l, roots, x))
			}
		}
	}
}

// together has the least sums of a number of a and one of b, by their places together.
func together(a, b []int) []int {
	out := slices.Repeat([]int{math.MaxInt}, len(a)+len(b)-1)
	for i, v := range a {
		for k, w := range b {
			out[i+k] = min(out[i+k], v+w)
		}
	}
	return out
}

// rootCounts is how often each root is there.
func rootCounts(lists ...[]int) map[[2]int]int {
	counts := map[[2]int]int{}
	for _, l := range lists {
		roots, _ := tropic.Roots(l)
		for _, r := range roots {
			counts[[2]int{r.Over, r.Under}] += r.Many
		}
	}
	return counts
}

// The whole: two lists together have the roots of both.
func TestTropicRootsOfTwo(t *testing.T) {
	d := die(143)
	for round := range 300 {
		most := []int{1, 4, 30, api.MaxEntry / 2}[round%4]
		a, b := d.list(1+d.below(10), most), d.list(1+d.below(10), most)
		both := together(a, b)
		got, want := rootCounts(both), rootCounts(a, b)
		alikeAll := len(got) == len(want)
		for root, many := range want {
			alikeAll = alikeAll && got[root] == many
		}
		if !alikeAll {
			t.Errorf("%v and %v are together %v: roots %v, want %v", a, b, both, got, want)
		}
	}
}

// Z2
func TestTropicLists(t *testing.T) {
	l := roomy([]int{3, 1, 0, 2})
	v, e := tropic.At(l, -2)
	roots, f := tropic.Roots(l)
	again, _ := tropic.Roots(l)
	if v != -4 || e != api.OK || f != api.OK || len(roots) != 3 || tropic.Check(l) != api.OK || !untouched(l, []int{3, 1, 0, 2}) {
		t.Errorf("of %v: %d, %d, %v, %d", l, v, e, roots, f)
	}
	if !apart(roots, again) {
		t.Error("lists share memory")
	}
}
