package tests

import (
	"fmt"
	"math"
	"slices"
	"testing"

	"facet/api"
	"facet/poset"
)

// posetCheckCases: what Check says first.
func posetCheckCases() []struct {
	what string
	p    api.Poset
	want api.Errno
} {
	below := [2]int{0, 1}
	return []struct {
		what string
		p    api.Poset
		want api.Errno
	}{
		{"one thing", orderOf(1), api.OK},
		{"six things", orderOf(6, below), api.OK},
		{"all pairs of six things, rising", orderOf(6, slices.DeleteFunc(allPairs(6), func(p [2]int) bool { return p[0] > p[1] })...), api.OK},
		{"all of them, falling", orderOf(6, slices.DeleteFunc(allPairs(6), func(p [2]int) bool { return p[0] < p[1] })...), api.OK},
		{"one pair, 36 times", orderOf(2, slices.Repeat([][2]int{below}, 36)...), api.OK},
		{"no things", orderOf(0), api.ErrLimit},
		{"the zero value's pairs", orderOf(0, below), api.ErrLimit},
		{"seven things", orderOf(7), api.ErrLimit},
		{"less than none", orderOf(-1), api.ErrLimit},
		{"the least int", orderOf(math.MinInt), api.ErrLimit},
		{"the greatest int", orderOf(math.MaxInt), api.ErrLimit},
		{"things ahead of pairs", orderOf(7, slices.Repeat([][2]int{{9, 9}}, 37)...), api.ErrLimit},
		{"one pair, 37 times", orderOf(2, slices.Repeat([][2]int{below}, 37)...), api.ErrCount},
		{"37 pairs of one thing", orderOf(1, slices.Repeat([][2]int{{0, 0}}, 37)...), api.ErrCount},
		{"how many, ahead of which", orderOf(2, slices.Repeat([][2]int{{2, 5}}, 37)...), api.ErrCount},
		{"the first is none", orderOf(3, below, [2]int{3, 1}), api.ErrPlace},
		{"the second is none", orderOf(3, below, [2]int{1, 3}), api.ErrPlace},
		{"the first is below 0", orderOf(3, [2]int{-1, 1}), api.ErrPlace},
		{"the second is below 0", orderOf(3, [2]int{1, -1}), api.ErrPlace},
		{"no thing, far away", orderOf(6, [2]int{math.MinInt, math.MaxInt}), api.ErrPlace},
		{"no thing, twice", orderOf(2, [2]int{2, 2}), api.ErrPlace},
		{"no thing, behind one above itself", orderOf(3, [2]int{1, 1}, [2]int{0, 3}), api.ErrPlace},
		{"no thing, behind a ring", orderOf(3, below, [2]int{1, 0}, [2]int{0, 64}), api.ErrPlace},
		{"above itself", orderOf(1, [2]int{0, 0}), api.ErrForm},
		{"the last above itself", orderOf(6, below, [2]int{5, 5}), api.ErrForm},
		{"two above each other", orderOf(2, below, [2]int{1, 0}), api.ErrForm},
		{"all 36 pairs", orderOf(6, append(allPairs(6), [2]int{0, 0}, [2]int{1, 1}, [2]int{2, 2}, [2]int{3, 3}, [2]int{4, 4}, [2]int{5, 5})...), api.ErrForm},
		{"a ring of three", orderOf(6, [2]int{5, 3}, [2]int{3, 4}, [2]int{4, 5}), api.ErrForm},
		{"a ring of six", orderOf(6, [2]int{3, 1}, [2]int{1, 5}, [2]int{5, 0}, [2]int{0, 4}, [2]int{4, 2}, [2]int{2, 3}), api.ErrForm},
		{"a ring behind a way to it", orderOf(6, [2]int{0, 1}, [2]int{1, 2}, [2]int{2, 5}, [2]int{5, 4}, [2]int{4, 2}), api.ErrForm},
	}
}

// O1, Z1: all calls say first what Check says, Maps ahead of what it says of k; and nothing beside it.
func TestPosetCheck(t *testing.T) {
	for _, of := range posetCheckCases() {
		for _, k := range []int{2, -1, 7} {
			p := orderOf(of.p.N, slices.Clone(of.p.Pairs)...)
			got := toldOf(p, k)
			var want [9]api.Errno
			for i := range want {
				want[i] = of.want
			}
			if of.want == api.OK && k != 2 {
				want[6] = api.ErrValue
			}
			if of.want == api.OK && of.p.N > 4 {
				want[7], want[8] = api.ErrDim, api.ErrDim
			}
			if got.errors != want {
				t.Errorf("%s: %v, %d: %v, want %v", of.what, of.p, k, got.errors, want)
			}
			if of.want != api.OK && !got.isEmpty() {
				t.Errorf("%s: %v, %d: beside an error %v", of.what, of.p, k, got)
			}
			if !slices.Equal(p.Pairs, of.p.Pairs) {
				t.Errorf("%s: %v became %v", of.what, of.p, p)
			}
		}
	}
}

// O1: all sets of pairs of three things, themselves with them, and of four.
func TestPosetCheckAll(t *testing.T) {
	orders := 0
	for n, pairs := range map[int][][2]int{3: append(allPairs(3), [2]int{0, 0}, [2]int{1, 1}, [2]int{2, 2}), 4: allPairs(4)} {
		for chosen := range 1 << len(pairs) {
			p := orderOf(n)
			for _, i := range slices.Backward(bitsOf(chosen)) {
				p.Pairs = append(p.Pairs, pairs[i])
			}
			want := orderError(p)
			if got := poset.Check(p); got != want {
				t.Fatalf("poset.Check(%v) = %d, want %d", p, got, want)
			}
			if want == api.OK {
				orders++
			}
		}
	}
	// There are 25 ways to draw arrows between 3 things without a ring, and 543 between 4.
	if orders != 25+543 {
		t.Errorf("%d orders", orders)
	}
}

// O2, Z1: Maps goes by numbers from 0 to MaxTimes alone.
func TestPosetMapsOfNoSuchNumber(t *testing.T) {
	for _, k := range []int{-1, 7, 60, math.MinInt, math.MaxInt} {
		if weak, strict, e := poset.Maps(rising(3), k); weak != 0 || strict != 0 || e != api.ErrValue {
			t.Errorf("poset.Maps(.., %d) = %d, %d, %d", k, weak, strict, e)
		}
	}
	for k := range 7 {
		if weak, _, e := poset.Maps(orderOf(1), k); weak != k || e != api.OK {
			t.Errorf("poset.Maps(.., %d) = %d, %d", k, weak, e)
		}
	}
}

// O3, Z1: ErrDim of more than four things, and nothing beside it.
func TestPosetPolytopesOfTooMany(t *testing.T) {
	for n := 1; n <= 6; n++ {
		for _, p := range []api.Poset{orderOf(n), rising(n)} {
			order, e := poset.Order(p)
			chain, f := poset.Chain(p)
			if n <= 4 {
				if e != api.OK || f != api.OK || order.Dim != n || chain.Dim != n {
					t.Errorf("%v: %d, %d, %v, %v", p, e, f, order, chain)
				}
				continue
			}
			if e != api.ErrDim || f != api.ErrDim || order.Dim+chain.Dim+len(order.Points)+len(chain.Points) != 0 {
				t.Errorf("%v: %d, %d, %v, %v", p, e, f, order, chain)
			}
		}
	}
}

// Z2: pairs are not written into, nor read beyond their end; answers are fresh, and hang on nothing else.
func TestPosetMemory(t *testing.T) {
	for _, p := range somePosets(511, 4) {
		pairs := append(slices.Clone(p.Pairs), [2]int{mark, mark}, [2]int{0, 0})
		roomyOne := orderOf(p.N, pairs[:len(p.Pairs)]...)
		first := toldOf(roomyOne, 3)
		if !slices.Equal(pairs[:len(p.Pairs)], p.Pairs) || !slices.Equal(pairs[len(p.Pairs):], [][2]int{{mark, mark}, {0, 0}}) {
			t.Errorf("%v became %v", p, pairs)
		}
		second := toldOf(p, 3)
		was := fmt.Sprint(second)
		if fmt.Sprint(first) != was {
			t.Errorf("%v: %v, then %v", p, first, was)
		}
		if !apart(append(first.lists(), second.lists()...)...) ||
			!apart(first.orders, second.orders, first.moebius, second.moebius, first.order.Points, first.chain.Points, second.order.Points, second.chain.Points) {
			t.Errorf("%v: answers share memory", p)
		}
		for _, l := range first.lists() {
			for i := range l {
				l[i] = mark
			}
		}
		if now := fmt.Sprint(toldOf(p, 3)); now != was {
			t.Errorf("%v: %v, then %v", p, was, now)
		}
	}
}
