package house

import (
	"strconv"
	"strings"

	"facet/api"
	"facet/root"
)

// maxNumber is the greatest number of four digits.
const maxNumber = 9999

// readNumber takes a word just if its number is told by the same signs: so there is no
// + ahead of it, no 0 ahead of other digits, and no -0.
func readNumber(word string) (int, api.Errno) {
	n, err := strconv.Atoi(word)
	if err != nil || n < -maxNumber || n > maxNumber || strconv.Itoa(n) != word {
		return 0, api.ErrWord
	}
	return n, api.OK
}

func readNumbers(words []string) ([]int, api.Errno) { return readEach(words, readNumber) }

func readList(word string) ([]int, api.Errno) { return readNumbers(strings.Split(word, ",")) }

func readLists(words []string) ([][]int, api.Errno) { return readEach(words, readList) }

// readPairs reads all lists ahead of asking how long they are.
func readPairs(words []string) ([][2]int, api.Errno) {
	lists, e := readLists(words)
	if e != api.OK {
		return nil, e
	}
	var pairs [][2]int
	for _, l := range lists {
		if len(l) != 2 {
			return nil, api.ErrForm
		}
		pairs = append(pairs, [2]int{l[0], l[1]})
	}
	return pairs, api.OK
}

func readEach[T any](words []string, read func(string) (T, api.Errno)) ([]T, api.Errno) {
	var all []T
	for _, word := range words {
		one, e := read(word)
		if e != api.OK {
			return nil, e
		}
		all = append(all, one)
	}
	return all, api.OK
}

// readBoth reads the first word one way, and those behind it another way.
func readBoth[A, B any](words []string, first func(string) (A, api.Errno), behind func([]string) ([]B, api.Errno)) (a A, b []B, e api.Errno) {
	if a, e = first(words[0]); e != api.OK {
		return a, nil, e
	}
	b, e = behind(words[1:])
	return a, b, e
}

// readRoots reads a name of roots, and numbers behind it.
func readRoots(words []string) (c [][]int, numbers []int, e api.Errno) {
	return readBoth(words, root.Make, readNumbers)
}
