package work

import (
	"sync"
	"sync/atomic"

	"facet/api"
	"facet/face"
)

// job is a polytope and its number in the list: hands end out of order, and what they find is told in order.
type job struct {
	at int
	p  api.Polytope
}

// tally is what the hands have found: no two of them write the same list of counts, all of them add to the numbers.
type tally struct {
	counts     [][]int
	sum, wrong atomic.Int64
}

// countAll has ended when its last hand has.
func (t *tally) countAll(l []api.Polytope, hands int) {
	jobs := make(chan job)
	var all sync.WaitGroup
	all.Add(hands)
	for range hands {
		go func() {
			defer all.Done()
			t.countEach(jobs)
		}()
	}
	for i, p := range l {
		jobs <- job{i, p}
	}
	close(jobs)
	all.Wait()
}

// countEach is what one hand does.
func (t *tally) countEach(jobs <-chan job) {
	for j := range jobs {
		counts, e := face.Counts(j.p)
		if e != api.OK {
			t.wrong.Add(1)
			continue
		}
		t.counts[j.at] = counts
		for _, many := range counts {
			t.sum.Add(int64(many))
		}
	}
}
