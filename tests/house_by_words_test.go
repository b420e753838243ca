package tests

import (
	"fmt"
	"regexp"
	"strconv"
	"strings"
	"testing"

	"facet/api"
	"facet/count"
	"facet/crystal"
	"facet/face"
	"facet/half"
	"facet/house"
	"facet/hull"
	"facet/lp"
	"facet/matroid"
	"facet/named"
	"facet/plane"
	"facet/polar"
	"facet/poset"
	"facet/root"
	"facet/tropic"
	"facet/volume"
	"facet/weight"
	"facet/weyl"
)

// grammar has each line's words by what they are: n a number, l a list, p a pair, r a name of roots, t any text;
// one with a star stands any number of times, one with a plus once at least.
const grammar = `points l*|cyclic n n|rows|corners|counts|short|ehrhart|delta|volume|places n|inner n|where l|cut n l*|matroid n n*|graph n p*|circuits|flats|dual|greedy n*|best l l*|polar|named t n|least l+|word n n*|planes n l*|roots r|degrees r|reduce r n*|size r n*|marks r n*|orders n p*`

// heard are a line's words, read: all numbers outside lists, all lists, roots, a text.
type heard struct {
	numbers []int
	lists   [][]int
	roots   [][]int
	text    string
}

func (h heard) pairs() [][2]int {
	var pairs [][2]int
	for _, l := range h.lists {
		pairs = append(pairs, [2]int{l[0], l[1]})
	}
	return pairs
}

// kindsOf are the kinds of so many words behind a line's first; false, if it can't have them.
func kindsOf(first string, many int) ([]string, bool) {
	for _, shape := range strings.Split(grammar, "|") {
		kinds := strings.Split(shape, " ")
		if kinds[0] != first {
			continue
		}
		kinds = kinds[1:]
		if len(kinds) > 0 && len(kinds[len(kinds)-1]) == 2 {
			last := kinds[len(kinds)-1]
			kinds = kinds[:len(kinds)-1]
			if last[1] == '+' {
				kinds = append(kinds, last[:1])
			}
			for len(kinds) < many {
				kinds = append(kinds, last[:1])
			}
		}
		return kinds, len(kinds) == many
	}
	return nil, false
}

// hear reads the words of a line by their kinds, as Q1 says it.
func hear(words, kinds []string) (h heard, e api.Errno) {
	list := regexp.MustCompile(`^(0|-?[1-9][0-9]{0,3})(,(0|-?[1-9][0-9]{0,3}))*$`)
	for i, word := range words {
		switch kinds[i] {
		case "t":
			h.text = word
			continue
		case "r":
			if h.roots, e = root.Make(word); e != api.OK {
				return heard{}, e
			}
			continue
		}
		if !list.MatchString(word) || kinds[i] == "n" && strings.Contains(word, ",") {
			return heard{}, api.ErrWord
		}
		var l []int
		for _, digits := range strings.Split(word, ",") {
			n, _ := strconv.Atoi(digits)
			l = append(l, n)
		}
		if kinds[i] == "n" {
			h.numbers = append(h.numbers, l[0])
		} else {
			h.lists = append(h.lists, l)
		}
	}
	for i := range words {
		if kinds[i] == "p" && strings.Count(words[i], ",") != 1 {
			return heard{}, api.ErrForm
		}
	}
	return h, api.OK
}

// someone answers lines by what Q1 says: it has a polytope and a matroid, or not.
type someone struct {
	bodies   []api.Polytope
	matroids []api.Matroid
}

func (s *someone) takeBody(p api.Polytope, e api.Errno) (string, api.Errno) {
	corners, e1 := hull.Corners(p)
	rows, e2 := hull.Rows(p)
	if e != api.OK || e1 != api.OK || e2 != api.OK {
		return "", max(e, e1) // where e is OK both others are alike
	}
	s.bodies = []api.Polytope{p}
	return fmt.Sprint(p.Dim, len(corners), len(rows)), api.OK
}

func (s *someone) takeMatroid(m api.Matroid, e api.Errno) (string, api.Errno) {
	if e == api.OK {
		e = matroid.Check(m)
	}
	if e != api.OK {
		return "", e
	}
	s.matroids = []api.Matroid{m}
	most := 0
	for _, b := range m.Bases {
		most = max(most, len(bitsOf(b)))
	}
	return fmt.Sprint(m.N, most, len(m.Bases)), api.OK
}

// row has numbers with blanks between.
func row(l []int, e api.Errno) (string, api.Errno) {
	return strings.Trim(fmt.Sprint(l), "[]"), e
}

// rowOfLists has lists with blanks between, commas within.
func rowOfLists(m [][]int, e api.Errno) (string, api.Errno) {
	inside := strings.TrimSuffix(strings.TrimPrefix(fmt.Sprint(m), "["), "]")
	lists := strings.ReplaceAll(inside, "] [", "/")
	lists = strings.ReplaceAll(strings.Trim(lists, "[]"), " ", ",")
	return strings.ReplaceAll(lists, "/", " "), e
}

func (s *someone) ofBody(first string, h heard) (string, api.Errno) {
	if len(s.bodies) == 0 {
		return "", api.ErrNone
	}
	p := s.bodies[0]
	var n int
	var e api.Errno
	switch first {
	case "rows":
		return rowOfLists(hull.Rows(p))
	case "corners":
		return rowOfLists(hull.Corners(p))
	case "polar":
		return rowOfLists(polar.Corners(p))
	case "counts":
		return row(face.Counts(p))
	case "short":
		return row(face.Short(p))
	case "ehrhart":
		return row(count.Ehrhart(p))
	case "delta":
		return row(count.Delta(p))
	case "volume":
		n, e = volume.Of(p)
	case "places":
		n, e = count.Points(p, h.numbers[0])
	case "inner":
		n, e = count.Inner(p, h.numbers[0])
	case "where":
		n, e = hull.Where(p, h.lists[0])
	}
	return fmt.Sprint(n), e
}

func (s *someone) ofMatroid(first string, h heard) (string, api.Errno) {
	if len(s.matroids) == 0 {
		return "", api.ErrNone
	}
	m := s.matroids[0]
	switch first {
	case "circuits":
		return row(matroid.Circuits(m))
	case "flats":
		return row(matroid.Flats(m))
	case "dual":
		return s.takeMatroid(matroid.Dual(m))
	}
	set, sum, e := matroid.Greedy(m, h.numbers)
	return fmt.Sprint(set, sum), e
}

func (s *someone) ofNew(first string, h heard) (string, api.Errno) {
	switch first {
	case "points":
		p := api.Polytope{Points: h.lists}
		for _, l := range h.lists[:min(1, len(h.lists))] {
			p.Dim = len(l)
		}
		return s.takeBody(p, api.OK)
	case "cyclic":
		return s.takeBody(hull.Cyclic(h.numbers[0], h.numbers[1]))
	case "matroid":
		return s.takeMatroid(api.Matroid{N: h.numbers[0], Bases: h.numbers[1:]}, api.OK)
	case "graph":
		return s.takeMatroid(matroid.Graph(h.numbers[0], h.pairs()))
	}
	for i, kind := range []string{"simplex", "cube", "cross", "orders", "trees"} {
		if kind == h.text {
			call := []func(int) (api.Polytope, api.Errno){named.Simplex, named.Cube, named.Cross, named.Orders, named.Trees}[i]
			return s.takeBody(call(h.numbers[0]))
		}
	}
	return "", api.ErrKind
}

func ofRoots(first string, h heard) (string, api.Errno) {
	switch first {
	case "roots":
		return rowOfLists(root.Positive(h.roots))
	case "degrees":
		return row(weyl.Degrees(h.roots))
	case "reduce":
		short, e := weyl.Reduce(h.roots, h.numbers)
		told, _ := row(short, e)
		return strings.TrimSpace("= " + told), e
	case "size":
		n, e := weight.Size(h.roots, h.numbers)
		return fmt.Sprint(n), e
	}
	marks, e := weight.Marks(h.roots, h.numbers)
	var lists [][]int
	for _, w := range marks {
		lists = append(lists, append(w.Mark, w.Many))
	}
	return rowOfLists(lists, e)
}

func ofOthers(first string, h heard) (string, api.Errno) {
	switch first {
	case "cut":
		return rowOfLists(half.Corners(api.Cut{Dim: h.numbers[0], Rows: h.lists}))
	case "best":
		over, under, e := lp.Best(api.Cut{Dim: len(h.lists[0]), Rows: h.lists[1:]}, h.lists[0])
		return fmt.Sprint(over, under), e
	case "least":
		sum, choice, e := tropic.Least(h.lists)
		return row(append([]int{sum}, choice...), e)
	case "word":
		all, e := crystal.All(h.numbers[0], h.numbers[1:])
		high, _ := crystal.High(h.numbers[0], h.numbers[1:])
		return row(append([]int{len(all)}, high...), e)
	case "planes":
		regions, e := plane.Regions(h.numbers[0], h.lists)
		bounded, _ := plane.Bounded(h.numbers[0], h.lists)
		poly, _ := plane.Poly(h.numbers[0], h.lists)
		return row(append([]int{len(regions), len(bounded)}, poly...), e)
	}
	orders, e := poset.Orders(api.Poset{N: h.numbers[0], Pairs: h.pairs()})
	return fmt.Sprint(len(orders)), e
}

// answer is what Q1 says of a line.
func (s *someone) answer(line string) string {
	words := strings.Split(line, " ")
	kinds, fits := kindsOf(words[0], len(words)-1)
	if !fits {
		return "bad"
	}
	h, e := hear(words[1:], kinds)
	told := ""
	if e == api.OK {
		switch {
		case strings.Contains(" rows corners polar counts short ehrhart delta volume places inner where ", " "+words[0]+" "):
			told, e = s.ofBody(words[0], h)
		case strings.Contains(" circuits flats dual greedy ", " "+words[0]+" "):
			told, e = s.ofMatroid(words[0], h)
		case strings.Contains(" points cyclic matroid graph named ", " "+words[0]+" "):
			told, e = s.ofNew(words[0], h)
		case kinds[0] == "r":
			told, e = ofRoots(words[0], h)
		default:
			told, e = ofOthers(words[0], h)
		}
	}
	if e != api.OK {
		return fmt.Sprintf("error %d", e)
	}
	return told
}

// drawnLists are so many lists, told.
func drawnLists(d *die, many, columns, most int) string {
	told, _ := rowOfLists(d.lists(many, columns, most), api.OK)
	return " " + told
}

// drawnNumbers are so many numbers, told.
func drawnNumbers(d *die, many, below int) string {
	told := ""
	for range many {
		told += " " + strconv.Itoa(d.below(below))
	}
	return told
}

// drawnPairs are so many of them, told; a pair of things that are alike is rare.
func drawnPairs(d *die, many, things int) string {
	told := ""
	for range many {
		first := d.below(things)
		told += fmt.Sprintf(" %d,%d", first, min(first+d.below(things), things-d.below(5)/4))
	}
	return told
}

// drawnLine is a line that may well be right.
func drawnLine(d *die) string {
	shapes := strings.Split(grammar, "|")
	first, _, _ := strings.Cut(shapes[d.below(len(shapes))], " ")
	dim := 1 + d.below(3)
	kind := []string{"A1", "A2", "A3", "B2", "B3", "C3", "G2", "A1+A1", "A2+A1", "F4", "D4", "A4"}[d.below(12)]
	rank := len(writtenSquare(kind))
	switch first {
	case "points":
		return first + drawnLists(d, dim+1+d.below(5), dim, 4)
	case "cyclic":
		return fmt.Sprint("cyclic ", dim, " ", dim+d.below(4))
	case "named":
		return fmt.Sprint("named ", []string{"simplex", "cube", "cross", "orders", "trees"}[d.below(5)], " ", dim)
	case "places", "inner":
		return first + drawnNumbers(d, 1, 4)
	case "where":
		return first + drawnLists(d, 1, dim, 3)
	case "cut":
		return fmt.Sprint("cut ", dim, drawnLists(d, 2+d.below(6), dim+1, 5))
	case "best":
		return first + drawnLists(d, 1, dim, 3) + drawnLists(d, 1+d.below(6), dim+1, 5)
	case "matroid":
		all := someMatroids(die(d.below(9)))
		m := all[d.below(len(all))]
		told, _ := row(m.Bases, api.OK)
		return fmt.Sprint("matroid ", m.N, " ", told)
	case "graph":
		return fmt.Sprint("graph ", 4, drawnPairs(d, d.below(7), 4))
	case "greedy":
		return first + drawnNumbers(d, d.below(7), 30)
	case "least":
		return first + drawnLists(d, dim, dim, 2000)
	case "word":
		return fmt.Sprint("word ", dim, drawnNumbers(d, d.below(6), dim+1))
	case "planes":
		return fmt.Sprint("planes ", dim, drawnLists(d, 1+d.below(4), dim+1, 3))
	case "roots", "degrees":
		return first + " " + kind + []string{"", "", "", "+", "+A1", "+B1"}[d.below(6)]
	case "reduce":
		return first + " " + kind + drawnNumbers(d, d.below(9), rank)
	case "size", "marks":
		return first + " " + kind + drawnNumbers(d, rank, 3)
	case "orders":
		return fmt.Sprint("orders ", 4, drawnPairs(d, d.below(4), 4))
	}
	return first
}

// garbled is a line with something done to one of its words.
func garbled(d *die, line string) string {
	words := strings.Split(line, " ")
	at := d.below(len(words))
	others := append(noNumbers(), "1,2", "1,2,3", "0", "-1", "9999", "99", "A2", "A5", "cube", "A1+", "A", "B1", "0,0", "1,", ",")
	other := others[d.below(len(others))]
	switch d.below(4) {
	case 0:
		words[at] = other
	case 1:
		words = append(words, other)
	case 2:
		words = append(words[:at], words[at+1:]...)
	default:
		words[at] += other
	}
	return strings.Join(words, " ")
}

// Q1: drawn sessions, against what is said of each line.
func TestHouseByWords(t *testing.T) {
	d := die(231)
	times := map[string]int{}
	for range 1200 {
		var lines, want []string
		var s someone
		for range 1 + d.below(30) {
			line := drawnLine(&d)
			if d.below(6) == 0 {
				line = garbled(&d, line)
			}
			first, _, _ := strings.Cut(line, " ")
			told := s.answer(line)
			lines, want = append(lines, line), append(want, told)
			switch {
			case told == "bad":
				times["bad"]++
			case strings.HasPrefix(told, "error "):
				times[told]++
			default:
				times[first]++
			}
		}
		text := strings.Join(lines, "\n") + "\n"
		if len(text) > api.MaxText {
			want = []string{"too long"}
		}
		if got := house.Session(text); got != strings.Join(want, "\n")+"\n" {
			t.Fatalf("%q: %q, want %q", text, got, want)
		}
	}
	for _, shape := range strings.Split(grammar, "|") {
		if first, _, _ := strings.Cut(shape, " "); times[first] < 20 {
			t.Errorf("%s was answered %d times only", first, times[first])
		}
	}
	for e := api.ErrDim; e <= api.ErrShort; e++ {
		if told := fmt.Sprintf("error %d", e); times[told] < 3 {
			t.Errorf("%s was there %d times only", told, times[told])
		}
	}
	if times["bad"] < 100 {
		t.Errorf("bad was there %d times only", times["bad"])
	}
}

// Z1: signs of all kinds are answered line by line, and nothing else is told than what may be.
func TestHouseAnySigns(t *testing.T) {
	told := regexp.MustCompile(`^(bad|error ([1-9]|1[0-3])|(=|-?[0-9]+(,-?[0-9]+)*)( -?[0-9]+(,-?[0-9]+)*)*|)$`)
	pieces := []string{"\n", "\n", "\n", " ", " ", " ", ",", "-", "0", "1", "2", "7", "A2", "+", "\x00", "\xff", "é", "\t", "\r", "cube"}
	for _, shape := range strings.Split(grammar, "|") {
		first, _, _ := strings.Cut(shape, " ")
		pieces = append(pieces, "\n"+first+" ")
	}
	d := die(232)
	for range 2000 {
		text := ""
		for range d.below(60) {
			text += pieces[d.below(len(pieces))]
		}
		got := house.Session(text)
		lines := strings.Split(strings.TrimSuffix(text, "\n"), "\n")
		answers := strings.Split(got, "\n")
		if len(answers) != len(lines)+1 || answers[len(lines)] != "" {
			t.Fatalf("%q: %q", text, got)
		}
		for i, a := range answers {
			if !told.MatchString(a) {
				t.Errorf("%q: %q", lines[i], a)
			}
		}
		if again := house.Session(text); again != got {
			t.Errorf("%q: %q, then %q", text, got, again)
		}
	}
}
