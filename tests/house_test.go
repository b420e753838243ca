package tests

import (
	"strings"
	"sync"
	"testing"

	"facet/api"
	"facet/house"
)

// said are lines and what answers each.
type said struct{ line, want string }

// answered are the lines that answer these, in one session.
func answered(lines ...string) []string {
	return strings.Split(strings.TrimSuffix(house.Session(strings.Join(lines, "\n")+"\n"), "\n"), "\n")
}

// checkSaid holds a whole session against what is wanted.
func checkSaid(t *testing.T, all []said) {
	t.Helper()
	var lines []string
	for _, s := range all {
		lines = append(lines, s.line)
	}
	got := answered(lines...)
	if len(got) != len(all) {
		t.Fatalf("%q: %d answers: %q", lines, len(got), got)
	}
	for i, s := range all {
		if got[i] != s.want {
			t.Errorf("line %d, %q: %q, want %q", i, s.line, got[i], s.want)
		}
	}
}

// Q1: the document's lines, one behind the other.
func TestHouseExamples(t *testing.T) {
	checkSaid(t, []said{
		{"points 0,0 2,0 0,2 2,2 1,1", "2 4 4"},
		{"rows", "-1,0,0 0,-1,0 0,1,2 1,0,2"},
		{"corners", "0,0 0,2 2,0 2,2"},
		{"counts", "1 4 4 1"},
		{"short", "1 2 1"},
		{"volume", "8"},
		{"places 1", "9"},
		{"places 3", "49"},
		{"inner 2", "9"},
		{"ehrhart", "2 8 8"},
		{"delta", "1 6 1"},
		{"where 1,1", "-1"},
		{"where 3,0", "1"},
		{"points 1,0 0,1 -1,-1", "2 3 3"},
		{"polar", "-2,1,1 1,-2,1 1,1,1"},
		{"cyclic 4 7", "4 7 14"},
		{"counts", "1 7 21 28 14 1"},
		{"named orders 2", "2 6 6"},
		{"corners", "1,2 1,3 2,1 2,3 3,1 3,2"},
		{"named trees 3", "3 14 9"},
		{"counts", "1 14 21 9 1"},
		{"cut 2 1,0,3 -1,0,0 0,1,2 0,-1,0", "0,0,1 0,2,1 3,0,1 3,2,1"},
		{"cut 2 1,0,3 -1,0,0", "error 7"},
		{"best 1,1 1,0,3 0,1,2 -1,0,0 0,-1,0", "5 1"},
		{"matroid 4 3 5 6 9 10 12", "4 2 6"},
		{"circuits", "7 11 13 14"},
		{"flats", "0 1 2 4 8 15"},
		{"greedy 3 1 2 5", "9 8"},
		{"graph 4 0,1 1,2 2,3 3,0 0,2", "5 3 8"},
		{"dual", "5 2 8"},
		{"planes 2 1,0,0 0,1,0 1,1,1", "7 1 3 -3 1"},
		{"least 5,1,3 2,2,2 9,0,1", "4 1 0 2"},
		{"roots G2", "0,1 1,0 1,1 2,1 3,1 3,2"},
		{"degrees F4", "2 6 8 12"},
		{"reduce A2 0 1 0 1", "= 1 0"},
		{"size G2 0 1", "14"},
		{"marks A2 1 1", "-2,1,1 -1,-1,1 -1,2,1 0,0,2 1,-2,1 1,1,1 2,-1,1"},
		{"word 2 0 1 2 0", "3 0 1 2 0"},
		{"orders 4 0,1 1,2", "4"},
		{"foo", "bad"},
	})
}

// Q1: where there is little to tell, and where words are few.
func TestHouseEdges(t *testing.T) {
	checkSaid(t, []said{
		{"points -3 4", "1 2 2"},
		{"rows", "-1,3 1,4"},
		{"corners", "-3 4"},
		{"where 4", "0"},
		{"where -4", "1"},
		{"where 0", "-1"},
		{"places 0", "1"},
		{"polar", "-1,3 1,4"},
		{"points 0,0,0,0 1,0,0,0 0,1,0,0 0,0,1,0 0,0,0,1", "4 5 5"},
		{"inner 1", "0"},
		{"volume", "1"},
		{"named simplex 1", "1 2 2"},
		{"named cube 4", "4 16 8"},
		{"named cross 4", "4 8 16"},
		{"named orders 3", "3 24 14"},
		{"named trees 1", "1 2 2"},
		{"corners", "1 2"},
		{"cut 1 1,3 -1,3", "-3,1 3,1"},
		{"cut 1 2,1 -3,2", "-2,3 1,2"},
		{"cut 4", "error 7"},
		{"best 0", "0 1"},
		{"best 1 2,1", "1 2"},
		{"matroid 0 0", "0 0 1"},
		{"circuits", ""},
		{"flats", "0"},
		{"greedy", "0 0"},
		{"dual", "0 0 1"},
		{"matroid 2 0", "2 0 1"},
		{"circuits", "1 2"},
		{"flats", "3"},
		{"greedy 5 -5", "0 0"},
		{"dual", "2 2 1"},
		{"circuits", ""},
		{"greedy -5 -1000", "3 -1005"},
		{"dual", "2 0 1"},
		{"graph 1", "0 0 1"},
		{"graph 1 0,0", "1 0 1"},
		{"graph 2 0,1 1,0", "2 1 2"},
		{"least -9999", "-9999 0"},
		{"planes 1", "1 0 0 1"},
		{"planes 3", "1 0 0 0 0 1"},
		{"roots A1", "1"},
		{"roots A1+A1", "0,1 1,0"},
		{"degrees A1", "2"},
		{"degrees B2+A1", "2 2 4"},
		{"reduce A1", "="},
		{"reduce A1 0 0", "="},
		{"reduce A1 0", "= 0"},
		{"size A1 0", "1"},
		{"marks A1 0", "0,1"},
		{"marks A1 3", "-3,1 -1,1 1,1 3,1"},
		{"word 1", "1"},
		{"word 3 3", "4 0"},
		{"orders 1", "1"},
		{"orders 6", "720"},
		{"orders 2 0,1 0,1", "1"},
	})
}

// Q1: there is nothing on the desk at first; what one session leaves there, the next one hasn't.
func TestHouseDeskAtFirst(t *testing.T) {
	ofPolytopes := []string{"rows", "corners", "counts", "short", "ehrhart", "delta", "volume", "places 1", "inner 1", "where 0,0", "polar"}
	ofMatroids := []string{"circuits", "flats", "dual", "greedy 1 2", "greedy"}
	for _, line := range append(ofPolytopes, ofMatroids...) {
		if got := house.Session(line); got != "error 6\n" {
			t.Errorf("%q: %q", line, got)
		}
	}
	for _, line := range ofPolytopes {
		if got := answered("matroid 2 1 2", line); got[1] != "error 6" {
			t.Errorf("a matroid, %q: %q", line, got)
		}
		if got := answered("named cube 2", line); got[1] == "error 6" {
			t.Errorf("a polytope, %q: %q", line, got)
		}
	}
	for _, line := range ofMatroids {
		if got := answered("named cube 2", line); got[1] != "error 6" {
			t.Errorf("a polytope, %q: %q", line, got)
		}
		if got := answered("matroid 2 1 2", line); got[1] == "error 6" {
			t.Errorf("a matroid, %q: %q", line, got)
		}
	}
}

// Q1: the last polytope and the last matroid stand there, whatever else is asked.
func TestHouseDeskInBetween(t *testing.T) {
	between := []string{"rows", "circuits", "cut 1 1,3 -1,3", "best 1 1,3", "planes 1 1,0", "least 1", "roots A2", "orders 3", "word 1 0", "polar", "foo", "", "marks A1 1"}
	for _, line := range between {
		got := answered("named cube 3", "matroid 2 1 2", line, "volume", "flats", line, "counts", "greedy 1 2")
		for at, want := range map[int]string{3: "6", 4: "0 3", 6: "1 8 12 6 1", 7: "2 2"} {
			if got[at] != want {
				t.Errorf("%q: %q", line, got)
			}
		}
	}
	checkSaid(t, []said{
		{"named cube 2", "2 4 4"},
		{"graph 3 0,1 1,2 2,0", "3 2 3"},
		{"cyclic 3 6", "3 6 8"},
		{"counts", "1 6 12 8 1"},
		{"circuits", "7"},
		{"dual", "3 1 3"},
		{"circuits", "3 5 6"},
		{"dual", "3 2 3"},
		{"circuits", "7"},
		{"named simplex 2", "2 3 3"},
		{"counts", "1 3 3 1"},
		{"points 5 6 7", "1 2 2"},
		{"counts", "1 2 1"},
		{"matroid 1 1", "1 1 1"},
		{"flats", "0 1"},
	})
}

// Z1, Q1: a line that is wrong changes nothing.
func TestHouseDeskStays(t *testing.T) {
	for _, line := range []string{
		"points", "points 0,0 1", "points 0,0 x", "points 0,0 1,1", "points 101 1", "points 1,2,3,4,5", "points ",
		"points 0" + strings.Repeat(" 1", api.MaxPoints),
		"cyclic 5 9", "cyclic 2 2", "cyclic 4 8", "cyclic x 5", "cyclic 2", "cyclic 2 25",
		"named cube 5", "named cube 0", "named foo 2", "named trees 4", "named orders 4", "named simplex x", "named cross",
		"matroid", "matroid 2", "matroid 9 1", "matroid -1 0", "matroid 4 3 12", "matroid 2 2 1", "matroid 2 4", "matroid 2 x", "matroid 2 1 3",
		"graph", "graph 0", "graph 8 0,1", "graph 3 0,3", "graph 3 0,1,2", "graph 3 0", "graph 3 0,x", "graph 3" + strings.Repeat(" 0,1", api.MaxGround+1),
		"dual 1", "rows 1", "foo", "",
	} {
		got := answered("points 0,0 3,0 0,3", "graph 3 0,1 1,2 2,0", line, "corners", "flats", "volume", "greedy 1 2 3")
		if got[2] != "bad" && !strings.HasPrefix(got[2], "error ") {
			t.Errorf("%q: %q", line, got[2])
		}
		if rest := strings.Join(got[3:], "|"); rest != "0,0 0,3 3,0|0 1 2 4 7|9|6 5" {
			t.Errorf("%q: then %q", line, rest)
		}
		if got := answered(line, "corners", "flats"); got[1] != "error 6" || got[2] != "error 6" {
			t.Errorf("%q alone: then %q", line, got[1:])
		}
	}
}

// Q1: where a text is cut into lines.
func TestHouseLinesOfText(t *testing.T) {
	for _, c := range []struct{ text, want string }{
		{"", "bad\n"},
		{"\n", "bad\n"},
		{"\n\n", "bad\nbad\n"},
		{"roots A1", "1\n"},
		{"roots A1\n", "1\n"},
		{"roots A1\n\n", "1\nbad\n"},
		{"\nroots A1", "bad\n1\n"},
		{"roots A1\nroots A2", "1\n0,1 1,0 1,1\n"},
		{"roots A1\n\nroots A2\n", "1\nbad\n0,1 1,0 1,1\n"},
		{"roots A1\r\n", "error 12\n"},
		{"rows\r\n", "bad\n"},
		{"roots A1\x00\n", "error 12\n"},
		{"matroid 0 0\ncircuits\ncircuits", "0 0 1\n\n\n"},
	} {
		if got := house.Session(c.text); got != c.want {
			t.Errorf("%q: %q, want %q", c.text, got, c.want)
		}
	}
}

// Q1: a text of MaxText bytes is answered, a longer one is not: bytes, not runes or lines.
func TestHouseTooLong(t *testing.T) {
	const none = "error 6\n"
	five := api.MaxText / 5
	for _, c := range []struct {
		what, text, want string
	}{
		{"the most", strings.Repeat("rows\n", five), strings.Repeat(none, five)},
		{"a newline more", strings.Repeat("rows\n", five) + "\n", "too long\n"},
		{"a line more", strings.Repeat("rows\n", five+1), "too long\n"},
		{"newlines", strings.Repeat("\n", api.MaxText), strings.Repeat("bad\n", api.MaxText)},
		{"too many newlines", strings.Repeat("\n", api.MaxText+1), "too long\n"},
		{"one line", strings.Repeat("x", api.MaxText), "bad\n"},
		{"one line too long", strings.Repeat("x", api.MaxText+1), "too long\n"},
		{"runes", strings.Repeat("é", api.MaxText/2), "bad\n"},
		{"one rune too many", strings.Repeat("é", api.MaxText/2) + "é", "too long\n"},
		{"far too long", strings.Repeat("rows\n", 1<<20), "too long\n"},
		{"many words", "greedy" + strings.Repeat(" 1", (api.MaxText-6)/2), none},
		{"many blanks", "greedy" + strings.Repeat(" ", api.MaxText-6), "error 12\n"},
		{"many numbers", "where " + strings.Repeat("1,", (api.MaxText-8)/2) + "1", none},
	} {
		if got := house.Session(c.text); got != c.want {
			t.Errorf("%s: %.60q, want %.60q", c.what, got, c.want)
		}
	}
}

// Z2: sessions at the same time don't see each other.
func TestHouseManyAtOnce(t *testing.T) {
	texts := []string{
		"named cube 3\nmatroid 2 1 2\ncounts\nflats\nvolume",
		"rows\nflats\ncyclic 3 5\ncounts\ngraph 3 0,1 1,2\ndual\nflats",
		"points 0,0 2,0 0,2\nehrhart\nplaces 2\nmarks A2 1 1\ncircuits",
	}
	var want []string
	for _, text := range texts {
		want = append(want, house.Session(text))
	}
	got := make([]string, 24)
	var all sync.WaitGroup
	for i := range got {
		all.Go(func() { got[i] = house.Session(texts[i%3]) })
	}
	all.Wait()
	for i := range got {
		if got[i] != want[i%3] {
			t.Errorf("%q: %q, and %q at the same time", texts[i%3], want[i%3], got[i])
		}
	}
}
