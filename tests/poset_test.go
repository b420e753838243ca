package tests

import (
	"slices"
	"testing"

	"facet/api"
	"facet/poset"
)

// O1
func TestPosetAbove(t *testing.T) {
	for _, of := range []struct {
		p    api.Poset
		want []int
	}{
		{orderOf(1), []int{0}},
		{orderOf(3), []int{0, 0, 0}},
		{orderOf(2, [2]int{0, 1}), []int{2, 0}},
		{orderOf(2, [2]int{1, 0}), []int{0, 1}},
		{orderOf(2, [2]int{1, 0}, [2]int{1, 0}), []int{0, 1}},
		{rising(6), []int{62, 60, 56, 48, 32, 0}},
		{diamond(), []int{14, 8, 8, 0}},
		{orderOf(4, [2]int{2, 0}, [2]int{3, 2}, [2]int{0, 1}), []int{2, 0, 3, 7}},
		{orderOf(6, [2]int{4, 5}, [2]int{1, 3}, [2]int{5, 1}), []int{0, 8, 0, 0, 42, 10}},
	} {
		if got, e := poset.Above(of.p); e != api.OK || !slices.Equal(got, of.want) {
			t.Errorf("poset.Above(%v) = %v, %d, want %v", of.p, got, e, of.want)
		}
	}
}

// O2
func TestPosetOrders(t *testing.T) {
	for _, of := range []struct {
		p    api.Poset
		want [][]int
	}{
		{orderOf(1), [][]int{{0}}},
		{orderOf(2), [][]int{{0, 1}, {1, 0}}},
		{orderOf(2, [2]int{1, 0}), [][]int{{1, 0}}},
		{diamond(), [][]int{{0, 1, 2, 3}, {0, 2, 1, 3}}},
		{orderOf(3, [2]int{2, 0}), [][]int{{1, 2, 0}, {2, 0, 1}, {2, 1, 0}}},
		{orderOf(4, [2]int{0, 1}, [2]int{1, 2}), [][]int{{0, 1, 2, 3}, {0, 1, 3, 2}, {0, 3, 1, 2}, {3, 0, 1, 2}}},
	} {
		if got, e := poset.Orders(of.p); e != api.OK || !alike(got, of.want) {
			t.Errorf("poset.Orders(%v) = %v, %d, want %v", of.p, got, e, of.want)
		}
	}
	if all, e := poset.Orders(orderOf(6)); e != api.OK || len(all) != 720 {
		t.Errorf("of 6 things there are %d orders, %d", len(all), e)
	}
}

// O2
func TestPosetFiltersAndApart(t *testing.T) {
	for _, of := range []struct {
		p              api.Poset
		filters, apart []int
	}{
		{orderOf(1), []int{0, 1}, []int{0, 1}},
		{orderOf(2), []int{0, 1, 2, 3}, []int{0, 1, 2, 3}},
		{orderOf(2, [2]int{0, 1}), []int{0, 2, 3}, []int{0, 1, 2}},
		{orderOf(2, [2]int{1, 0}), []int{0, 1, 3}, []int{0, 1, 2}},
		{rising(6), []int{0, 32, 48, 56, 60, 62, 63}, []int{0, 1, 2, 4, 8, 16, 32}},
		{diamond(), []int{0, 8, 10, 12, 14, 15}, []int{0, 1, 2, 4, 6, 8}},
		{orderOf(3, [2]int{2, 0}), []int{0, 1, 2, 3, 5, 7}, []int{0, 1, 2, 3, 4, 6}},
	} {
		if got, e := poset.Filters(of.p); e != api.OK || !slices.Equal(got, of.filters) {
			t.Errorf("poset.Filters(%v) = %v, %d, want %v", of.p, got, e, of.filters)
		}
		if got, e := poset.Apart(of.p); e != api.OK || !slices.Equal(got, of.apart) {
			t.Errorf("poset.Apart(%v) = %v, %d, want %v", of.p, got, e, of.apart)
		}
	}
}

// O2: the document's example, and others.
func TestPosetMoebius(t *testing.T) {
	for _, of := range []struct {
		p    api.Poset
		want [][]int
	}{
		{orderOf(1), [][]int{{1}}},
		{orderOf(2), [][]int{{1, 0}, {0, 1}}},
		{orderOf(2, [2]int{1, 0}), [][]int{{1, 0}, {-1, 1}}},
		{diamond(), [][]int{{1, -1, -1, 1}, {0, 1, 0, -1}, {0, 0, 1, -1}, {0, 0, 0, 1}}},
		{rising(4), [][]int{{1, -1, 0, 0}, {0, 1, -1, 0}, {0, 0, 1, -1}, {0, 0, 0, 1}}},
		// three between the least and the greatest
		{orderOf(5, [2]int{4, 0}, [2]int{4, 1}, [2]int{4, 2}, [2]int{0, 3}, [2]int{1, 3}, [2]int{2, 3}),
			[][]int{{1, 0, 0, -1, 0}, {0, 1, 0, -1, 0}, {0, 0, 1, -1, 0}, {0, 0, 0, 1, 0}, {-1, -1, -1, 2, 1}}},
	} {
		if got, e := poset.Moebius(of.p); e != api.OK || !alike(got, of.want) {
			t.Errorf("poset.Moebius(%v) = %v, %d, want %v", of.p, got, e, of.want)
		}
	}
	four := orderOf(6)
	for i := 1; i < 5; i++ {
		four.Pairs = append(four.Pairs, [2]int{0, i}, [2]int{i, 5})
	}
	if got, e := poset.Moebius(four); e != api.OK || got[0][5] != 3 {
		t.Errorf("poset.Moebius(%v) = %v, %d", four, got, e)
	}
}

// O2: the document's example, and others.
func TestPosetMaps(t *testing.T) {
	for _, of := range []struct {
		p            api.Poset
		k            int
		weak, strict int
	}{
		{rising(2), 3, 6, 3},
		{orderOf(2, [2]int{1, 0}), 3, 6, 3},
		{orderOf(1), 0, 0, 0},
		{orderOf(1), 1, 1, 1},
		{rising(6), 0, 0, 0},
		{rising(6), 1, 1, 0},
		{rising(6), 6, 462, 1},
		{rising(3), 2, 4, 0},
		{orderOf(6), 6, 46656, 46656},
		{orderOf(6), 1, 1, 1},
		{diamond(), 2, 6, 0},
		{diamond(), 3, 20, 1},
		{diamond(), 4, 50, 6},
	} {
		if weak, strict, e := poset.Maps(of.p, of.k); weak != of.weak || strict != of.strict || e != api.OK {
			t.Errorf("poset.Maps(%v, %d) = %d, %d, %d, want %d, %d", of.p, of.k, weak, strict, e, of.weak, of.strict)
		}
	}
}

// O3
func TestPosetPolytopes(t *testing.T) {
	for _, of := range []struct {
		p            api.Poset
		order, chain [][]int
	}{
		{orderOf(1), [][]int{{0}, {1}}, [][]int{{0}, {1}}},
		{rising(2), [][]int{{0, 0}, {0, 1}, {1, 1}}, [][]int{{0, 0}, {1, 0}, {0, 1}}},
		{orderOf(2), [][]int{{0, 0}, {1, 0}, {0, 1}, {1, 1}}, [][]int{{0, 0}, {1, 0}, {0, 1}, {1, 1}}},
		{diamond(),
			[][]int{{0, 0, 0, 0}, {0, 0, 0, 1}, {0, 1, 0, 1}, {0, 0, 1, 1}, {0, 1, 1, 1}, {1, 1, 1, 1}},
			[][]int{{0, 0, 0, 0}, {1, 0, 0, 0}, {0, 1, 0, 0}, {0, 0, 1, 0}, {0, 1, 1, 0}, {0, 0, 0, 1}}},
	} {
		if got, e := poset.Order(of.p); e != api.OK || got.Dim != of.p.N || !alike(got.Points, of.order) {
			t.Errorf("poset.Order(%v) = %v, %d, want %v", of.p, got, e, of.order)
		}
		if got, e := poset.Chain(of.p); e != api.OK || got.Dim != of.p.N || !alike(got.Points, of.chain) {
			t.Errorf("poset.Chain(%v) = %v, %d, want %v", of.p, got, e, of.chain)
		}
	}
}

// pointsByWords: of each set of n things a point.
func pointsByWords(n int, sets []int) [][]int {
	var out [][]int
	for _, s := range sets {
		var point []int
		for i := range n {
			point = append(point, s>>i%2)
		}
		out = append(out, point)
	}
	return out
}

// setsByWords are the sets of n things of which it is so of each two.
func setsByWords(n int, isSo func(has []int, i, k int) bool) []int {
	var out []int
	for s := range 1 << n {
		isOne := true
		for i := range n {
			for k := range n {
				isOne = isOne && isSo(bitsOf(s), i, k)
			}
		}
		if isOne {
			out = append(out, s)
		}
	}
	return out
}

// mapsByWords goes through all lists of n numbers below k.
func mapsByWords(p api.Poset, k int) (weak, strict int) {
	for code := range power(k, p.N) {
		var numbers []int
		for range p.N {
			numbers = append(numbers, code%k)
			code /= k
		}
		isWeak, isStrict := 1, 1
		for _, pair := range p.Pairs {
			if numbers[pair[0]] > numbers[pair[1]] {
				isWeak = 0
			}
			if numbers[pair[0]] >= numbers[pair[1]] {
				isStrict = 0
			}
		}
		weak, strict = weak+isWeak, strict+isStrict
	}
	return weak, strict
}

// chainsByWords: how many rising ways lead from i to k, those of an odd number of steps taken away? (That is Moebius's number, by Hall.)
func chainsByWords(p api.Poset, i, k int) int {
	if i == k {
		return 1
	}
	sum := 0
	for j := range p.N {
		if isHigher(p, i, j) && (j == k || isHigher(p, j, k)) {
			sum -= chainsByWords(p, j, k)
		}
	}
	return sum
}

// O1 to O3: of all orders of up to 4 things, and some of more, as the words say.
func TestPosetByWords(t *testing.T) {
	for _, p := range append(somePosets(521, 12), allPosets(4)...) {
		k := 1 + len(p.Pairs)%4
		got := toldOf(p, k)
		want := ofOrder{errors: got.errors}
		for i := range p.N {
			above := 0
			var numbers []int
			for j := range p.N {
				if isHigher(p, i, j) {
					above += 1 << j
				}
				numbers = append(numbers, chainsByWords(p, i, j))
			}
			want.above = append(want.above, above)
			want.moebius = append(want.moebius, numbers)
		}
		want.orders = slices.DeleteFunc(ordersOf(p.N), func(l []int) bool {
			return slices.ContainsFunc(p.Pairs, func(pair [2]int) bool { return slices.Index(l, pair[0]) > slices.Index(l, pair[1]) })
		})
		slices.SortFunc(want.orders, slices.Compare[[]int])
		want.filters = setsByWords(p.N, func(has []int, i, k int) bool {
			return !slices.Contains(has, i) || slices.Contains(has, k) || !isHigher(p, i, k)
		})
		want.apart = setsByWords(p.N, func(has []int, i, k int) bool {
			return !slices.Contains(has, i) || !slices.Contains(has, k) || !isHigher(p, i, k)
		})
		want.weak, want.strict = mapsByWords(p, k)
		if p.N <= 4 {
			want.order = api.Polytope{Dim: p.N, Points: pointsByWords(p.N, want.filters)}
			want.chain = api.Polytope{Dim: p.N, Points: pointsByWords(p.N, want.apart)}
		}
		if !sameOrder(got, want) {
			t.Fatalf("%v, %d: %v, want %v", p, k, got, want)
		}
	}
}

// sameOrder: is the same told of both?
func sameOrder(a, b ofOrder) bool {
	return slices.Equal(a.above, b.above) && alike(a.orders, b.orders) && slices.Equal(a.filters, b.filters) &&
		slices.Equal(a.apart, b.apart) && alike(a.moebius, b.moebius) && a.weak == b.weak && a.strict == b.strict &&
		a.order.Dim == b.order.Dim && alike(a.order.Points, b.order.Points) &&
		a.chain.Dim == b.chain.Dim && alike(a.chain.Points, b.chain.Points) && a.errors == b.errors
}
