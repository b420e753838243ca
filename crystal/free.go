package crystal

import (
	"slices"

	"facet/api"
)

// letters of a word, 0 behind them: words of one length are told apart by them.
type letters [api.MaxWord]int

func lettersOf(w []int) letters {
	var l letters
	copy(l[:], w)
	return l
}

// free has the places of the letters i + 1 and i that no other one takes, both rising.
func free(w []int, i int) (nexts, own []int) {
	for place, letter := range w {
		switch {
		case letter == i:
			own = append(own, place)
		case letter == i+1 && len(own) > 0:
			own = own[:len(own)-1]
		case letter == i+1:
			nexts = append(nexts, place)
		}
	}
	return nexts, own
}

func down(w []int, i int) ([]int, bool) {
	_, own := free(w, i)
	if len(own) == 0 {
		return nil, false
	}
	low := slices.Clone(w)
	low[own[0]] = i + 1
	return low, true
}

func up(w []int, i int) ([]int, bool) {
	nexts, _ := free(w, i)
	if len(nexts) == 0 {
		return nil, false
	}
	high := slices.Clone(w)
	high[nexts[len(nexts)-1]] = i
	return high, true
}

// nearTo are the words that come of one by one turn, up or down.
func nearTo(n int, w []int) [][]int {
	var near [][]int
	for i := range n {
		if low, ok := down(w, i); ok {
			near = append(near, low)
		}
		if high, ok := up(w, i); ok {
			near = append(near, high)
		}
	}
	return near
}
