package tests

import (
	"slices"

	"facet/api"
	"facet/poset"
)

// orderOf is an order of n things.
func orderOf(n int, pairs ...[2]int) api.Poset { return api.Poset{N: n, Pairs: pairs} }

// rising: each of n things is below the next one.
func rising(n int) api.Poset {
	p := orderOf(n)
	for i := range n - 1 {
		p.Pairs = append(p.Pairs, [2]int{i, i + 1})
	}
	return p
}

// diamond: one below two, and one above both.
func diamond() api.Poset {
	return orderOf(4, [2]int{0, 1}, [2]int{0, 2}, [2]int{1, 3}, [2]int{2, 3})
}

// isHigher: is k above i, by as many pairs as there are things at the most?
func isHigher(p api.Poset, i, k int) bool {
	reached := []int{i}
	for range p.N {
		var next []int
		for _, pair := range p.Pairs {
			if slices.Contains(reached, pair[0]) && !slices.Contains(next, pair[1]) {
				next = append(next, pair[1])
			}
		}
		if slices.Contains(next, k) {
			return true
		}
		reached = next
	}
	return false
}

// orderError is what Check is to say of pairs that are few, of things that are there.
func orderError(p api.Poset) api.Errno {
	for i := range p.N {
		if isHigher(p, i, i) {
			return api.ErrForm
		}
	}
	return api.OK
}

// allPairs of n things that are unlike.
func allPairs(n int) [][2]int {
	var out [][2]int
	for i := range n {
		for k := range n {
			if i != k {
				out = append(out, [2]int{i, k})
			}
		}
	}
	return out
}

// allPosets are the orders of n things by all sets of pairs.
func allPosets(n int) []api.Poset {
	pairs := allPairs(n)
	var out []api.Poset
	for chosen := range 1 << len(pairs) {
		p := orderOf(n)
		for _, i := range bitsOf(chosen) {
			p.Pairs = append(p.Pairs, pairs[i])
		}
		if orderError(p) == api.OK {
			out = append(out, p)
		}
	}
	return out
}

// drawnPoset is an order of n things, its pairs in no order, some perhaps twice.
func drawnPoset(d *die, n int) api.Poset {
	place := ordersOf(n)[d.below(len(ordersOf(n)))]
	p := orderOf(n)
	for range d.below(2 * n) {
		if a, b := d.below(n), d.below(n); place[a] < place[b] {
			p.Pairs = append(p.Pairs, [2]int{a, b})
		}
	}
	return p
}

// somePosets: all orders of up to 3 things, some of more.
func somePosets(seed die, many int) []api.Poset {
	d := seed
	out := slices.Concat(allPosets(1), allPosets(2), allPosets(3))
	for n := 4; n <= 6; n++ {
		out = append(out, orderOf(n), rising(n))
		for range many {
			out = append(out, drawnPoset(&d, n))
		}
	}
	return append(out, diamond())
}

// bitsOf are the things of a set of 16 at the most.
func bitsOf(s int) []int {
	var out []int
	for i := range 16 {
		if s>>i&1 == 1 {
			out = append(out, i)
		}
	}
	return out
}

// ofOrder is all that the calls of package poset tell of an order.
type ofOrder struct {
	above, filters, apart []int
	orders, moebius       [][]int
	weak, strict          int
	order, chain          api.Polytope
	errors                [9]api.Errno
}

// toldOf asks all of them.
func toldOf(p api.Poset, k int) ofOrder {
	var o ofOrder
	o.errors[0] = poset.Check(p)
	o.above, o.errors[1] = poset.Above(p)
	o.orders, o.errors[2] = poset.Orders(p)
	o.filters, o.errors[3] = poset.Filters(p)
	o.apart, o.errors[4] = poset.Apart(p)
	o.moebius, o.errors[5] = poset.Moebius(p)
	o.weak, o.strict, o.errors[6] = poset.Maps(p, k)
	o.order, o.errors[7] = poset.Order(p)
	o.chain, o.errors[8] = poset.Chain(p)
	return o
}

// lists are all lists of numbers that were told.
func (o ofOrder) lists() [][]int {
	return slices.Concat([][]int{o.above, o.filters, o.apart}, o.orders, o.moebius, o.order.Points, o.chain.Points)
}

// isEmpty: is nothing told but errors?
func (o ofOrder) isEmpty() bool {
	return len(slices.Concat(o.lists()...)) == 0 && len(o.orders)+len(o.moebius)+o.weak+o.strict == 0 &&
		o.order.Dim+o.chain.Dim+len(o.order.Points)+len(o.chain.Points) == 0
}
