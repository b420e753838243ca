package root

import (
	"strconv"
	"strings"

	"facet/api"
	"facet/choose"
)

const (
	// maxName is how many bytes a name has at the most.
	maxName = 20
	// letters are those of all kinds.
	letters = "ABCDFG"
)

type kind struct {
	letter rune
	rank   int
}

// square has 0 behind a kind's rank, so that two of them are alike just if both their
// ranks and their numbers are.
type square [api.MaxRank][api.MaxRank]int

// kinds has the squares of all kinds that there are, ready from the start. No answer hangs
// on it: what stands there is what made says.
var kinds = findKinds()

func findKinds() map[kind]square {
	found := map[kind]square{}
	for _, letter := range letters {
		least, most := ranks(letter)
		for rank := least; rank <= most; rank++ {
			of := kind{letter, rank}
			found[of] = made(of)
		}
	}
	return found
}

// ranks of a letter: below the least its squares are those of other letters, above the
// most they have no end, or more rows than may be.
func ranks(letter rune) (least, most int) {
	switch letter {
	case 'A':
		return 1, 4
	case 'B':
		return 2, 4
	case 'C':
		return 3, 4
	case 'G':
		return 2, 2
	}
	return 4, 4
}

// isKind: is there such a kind? Its letter is one of those that kinds have.
func isKind(of kind) bool {
	least, most := ranks(of.letter)
	return of.rank >= least && of.rank <= most
}

// made is the square of a kind that there is.
func made(of kind) square {
	var s square
	last := of.rank - 1
	for i := range of.rank {
		s[i][i] = 2
	}
	for i := range last {
		s[i][i+1], s[i+1][i] = -1, -1
	}
	switch of.letter {
	case 'B':
		s[last-1][last] = -2
	case 'C':
		s[last][last-1] = -2
	case 'D':
		s[2][3], s[3][2] = 0, 0
		s[1][3], s[3][1] = -1, -1
	case 'F':
		s[1][2] = -2
	case 'G':
		s[1][0] = -3
	}
	return s
}

// read is the kind that a piece of a name tells.
func read(piece string) (kind, api.Errno) {
	var of kind
	signs := 0
	for _, sign := range piece {
		switch {
		case signs == 0 && strings.ContainsRune(letters, sign):
			of.letter = sign
		case signs == 1 && sign >= '1' && sign <= '9':
			of.rank = int(sign - '0')
		default:
			return kind{}, api.ErrWord
		}
		signs++
	}
	if signs < 2 {
		return kind{}, api.ErrShort
	}
	if !isKind(of) {
		return kind{}, api.ErrKind
	}
	return of, api.OK
}

// squareOf takes a square that is ready, and makes one that is not.
func squareOf(of kind) square {
	if s, isReady := kinds[of]; isReady {
		return s
	}
	return made(of)
}

// joined has the pieces' squares one behind the other.
func joined(pieces []kind, rank int) [][]int {
	var c [][]int
	for _, piece := range pieces {
		s, ahead := squareOf(piece), len(c)
		for i := range piece.rank {
			row := make([]int, rank)
			copy(row[ahead:], s[i][:piece.rank])
			c = append(c, row)
		}
	}
	return c
}

// kindOf is the kind whose square is the part's in some order of its roots: there is
// one, as the roots have an end.
func kindOf(c [][]int, part []int) kind {
	for order := range choose.Orders(len(part)) {
		s := among(c, choose.Picked(part, order))
		for _, letter := range letters {
			if of := (kind{letter, len(part)}); isKind(of) && made(of) == s {
				return of
			}
		}
	}
	return kind{}
}

// among is the square of some roots, in this order.
func among(c [][]int, roots []int) square {
	var s square
	for i, of := range roots {
		for k, by := range roots {
			s[i][k] = c[of][by]
		}
	}
	return s
}

func (of kind) name() string { return string(of.letter) + strconv.Itoa(of.rank) }
