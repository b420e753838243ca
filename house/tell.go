package house

import (
	"strconv"
	"strings"

	"facet/api"
)

// tell has a word of each number.
func tell(numbers ...int) []string {
	var words []string
	for _, n := range numbers {
		words = append(words, strconv.Itoa(n))
	}
	return words
}

func tellNumber(n int, e api.Errno) ([]string, api.Errno) { return tell(n), e }

func tellNumbers(l []int, e api.Errno) ([]string, api.Errno) { return tell(l...), e }

func tellLists(lists [][]int, e api.Errno) ([]string, api.Errno) {
	var words []string
	for _, l := range lists {
		words = append(words, strings.Join(tell(l...), ","))
	}
	return words, e
}
