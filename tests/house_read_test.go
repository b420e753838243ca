package tests

import (
	"fmt"
	"math/bits"
	"strconv"
	"strings"
	"testing"

	"facet/api"
	"facet/house"
)

// Q1: all numbers of 1 to 4 digits are read, either way, and told as they were.
func TestHouseNumbers(t *testing.T) {
	var lines []string
	check := func() {
		for i, got := range answered(lines...) {
			if want := strings.TrimPrefix(lines[i], "least ") + " 0"; got != want {
				t.Errorf("%q: %q, want %q", lines[i], got, want)
			}
		}
		lines = nil
	}
	for n := -9999; n <= 9999; n++ {
		if lines = append(lines, "least "+strconv.Itoa(n)); len(lines) == 200 {
			check()
		}
	}
	check()
}

// noNumbers are words that are none.
func noNumbers() []string {
	return []string{
		"", "-", "--1", "+1", "-+1", "00", "01", "-01", "-0", "007", "0000", "10000", "-10000", "12345", "00001", "99999999999999999999",
		"9223372036854775808", "18446744073709551617", "4294967297", "1.", "1.0", ".5", "1e1", "0x1", "0b1", "0o7", "1_0", "1-", "1-1", "x", "1x", "x1",
		"1\t", "\t1", "1\r", "1\x00", "\x00", "١", "１", "²", "−1", "é", "\xff", "1\xff", "Inf", "NaN", "nil", "true", "'1'", "\"1\"", "1;", "1/2", "(1)", "1+1",
	}
}

// Q1: ErrWord, wherever a number stands.
func TestHouseNoNumbers(t *testing.T) {
	for _, word := range noNumbers() {
		for _, line := range []string{
			"points @", "points 0 @", "points 0,@", "points @,0", "points 0,0 1,@,1", "cyclic @ 5", "cyclic 2 @",
			"places @", "inner @", "where @", "where 0,@", "where @,0", "where 0,@,0",
			"cut @", "cut 1 @", "cut 1 1,@", "cut @ 1,1", "matroid @", "matroid @ 1", "matroid 2 1 @",
			"graph @", "graph 2 @,1", "graph 2 0,@", "graph 2 0,1 @", "greedy @", "greedy 1 @ 1",
			"best @", "best 1,@", "best 1 @", "best 1 1,@", "named cube @", "named foo @", "least @", "least 1,@ 1,1",
			"word @", "word 1 @", "word 1 0 @", "planes @", "planes 1 @", "planes 1 1,@",
			"reduce A2 @", "reduce A2 0 @", "size A2 @ 1", "size A2 1 @", "marks A2 1 @", "orders @", "orders 2 @", "orders 2 0,@", "orders 2 @,1",
		} {
			said := strings.ReplaceAll(line, "@", word)
			if got := house.Session(said); got != "error 12\n" {
				t.Errorf("%q: %q", said, got)
			}
		}
	}
}

// Q1: lists are cut at each comma.
func TestHouseNoLists(t *testing.T) {
	for _, word := range []string{",", ",1", "1,", "1,,1", "1,1,", ",,", "1;1", "1,\t1", "1,-", "1,01"} {
		for _, line := range []string{"points @", "where @", "cut 2 @", "graph 3 @", "best @", "best 1 @", "least @", "planes 2 @", "orders 2 @"} {
			said := strings.ReplaceAll(line, "@", word)
			if got := house.Session(said); got != "error 12\n" {
				t.Errorf("%q: %q", said, got)
			}
		}
	}
}

// shapes are the lines as the document's table has them.
func shapes() []string {
	return strings.Split("points ..|cyclic D N|rows|corners|counts|short|ehrhart|delta|volume|places K|inner K|where X|cut D ..|matroid N ..|graph N ..|"+
		"circuits|flats|dual|greedy ..|best G ..|polar|named KIND D|least LIST ..|word N ..|planes D ..|roots NAME|degrees NAME|reduce NAME ..|size NAME ..|marks NAME ..|orders N ..", "|")
}

// Q1: bad, just if there are too few words, or too many: whatever these are, and whatever is on the desk.
func TestHouseNumbersOfWords(t *testing.T) {
	for _, shape := range shapes() {
		words := strings.Split(shape, " ")
		least, isOpen := len(words)-1, words[len(words)-1] == ".."
		if isOpen {
			least--
		}
		for many := range 8 {
			for _, word := range []string{"1", "A1", "x", "", "0,1", "cube"} {
				line := words[0] + strings.Repeat(" "+word, many)
				isBad := many < least || many > least && !isOpen
				for _, got := range []string{house.Session(line), answered("named cube 2", "matroid 2 1 2", line)[2] + "\n"} {
					if (got == "bad\n") != isBad {
						t.Errorf("%q: %q; %s", line, got, shape)
					}
				}
			}
		}
	}
}

// Q1: first words that are none of the table's.
func TestHouseNoWords(t *testing.T) {
	var words []string
	for _, shape := range shapes() {
		word, _, _ := strings.Cut(shape, " ")
		words = append(words, strings.ToUpper(word), word+"s", word[:len(word)-1], " "+word, word+"\t", word+"\x00", "\ufeff"+word, word+",")
	}
	known := " " + strings.Join(shapes(), " ") + " "
	for _, word := range append(words, "", " ", "x", "0", "-1", "..", "D", "NAME", "\xff", "bad", "error", "error 12", "=", "too long", "simplex 2", "cube 2", "A2", "exit", "help") {
		if !strings.HasPrefix(word, " ") && strings.Contains(known, " "+word+" ") {
			continue // one word's beginning, or what is behind it, may be another word
		}
		for _, line := range []string{word, word + " 1", word + " 1 2", word + " x"} {
			if got := house.Session(line); got != "bad\n" {
				t.Errorf("%q: %q", line, got)
			}
		}
	}
}

// Q1: what is asked first, where several things are wrong.
func TestHouseWhichIsFirst(t *testing.T) {
	const desk = "named cube 2\nmatroid 2 1 2\n"
	for _, c := range []struct {
		line        string
		alone, with api.Errno // without anything on the desk, and with it
	}{
		{"places x", api.ErrWord, api.ErrWord},
		{"places 9", api.ErrNone, api.ErrPlace},
		{"places -1", api.ErrNone, api.ErrPlace},
		{"inner x", api.ErrWord, api.ErrWord},
		{"inner 0", api.ErrNone, api.ErrPlace},
		{"where 1,x", api.ErrWord, api.ErrWord},
		{"where 1", api.ErrNone, api.ErrForm},
		{"where 1,101", api.ErrNone, api.ErrValue},
		{"where 1,101,1", api.ErrNone, api.ErrForm},
		{"polar", api.ErrNone, api.ErrPlace},
		{"greedy x", api.ErrWord, api.ErrWord},
		{"greedy 1", api.ErrNone, api.ErrCount},
		{"greedy 1 1001", api.ErrNone, api.ErrValue},
		{"greedy 1 1001 1", api.ErrNone, api.ErrCount},

		{"points", api.ErrDim, api.ErrDim},
		{"points 1,2,3,4,5", api.ErrDim, api.ErrDim},
		{"points 1,2,3,4,5 x", api.ErrWord, api.ErrWord},
		{"points 0,0 1", api.ErrForm, api.ErrForm},
		{"points 0,0 1 x", api.ErrWord, api.ErrWord},
		{"points 0,101 1", api.ErrValue, api.ErrValue},
		{"points 0,0", api.ErrFlat, api.ErrFlat},
		{"points 1" + strings.Repeat(" 1", api.MaxPoints), api.ErrCount, api.ErrCount},
		{"cyclic 5 x", api.ErrWord, api.ErrWord},
		{"cyclic 5 2", api.ErrDim, api.ErrDim},
		{"cyclic 3 3", api.ErrCount, api.ErrCount},
		{"cyclic 4 9", api.ErrLimit, api.ErrLimit},
		{"named foo x", api.ErrWord, api.ErrWord},
		{"named foo 9", api.ErrKind, api.ErrKind},
		{"named  2", api.ErrKind, api.ErrKind},
		{"named Cube 2", api.ErrKind, api.ErrKind},
		{"named cubes 2", api.ErrKind, api.ErrKind},
		{"named cube 9", api.ErrDim, api.ErrDim},
		{"named trees 4", api.ErrDim, api.ErrDim},

		{"cut 9 x", api.ErrWord, api.ErrWord},
		{"cut 9 1", api.ErrDim, api.ErrDim},
		{"cut 0", api.ErrDim, api.ErrDim},
		{"cut 1" + strings.Repeat(" 1,1", api.MaxRows+1), api.ErrCount, api.ErrCount},
		{"cut 1 1", api.ErrForm, api.ErrForm},
		{"cut 1 1,21", api.ErrValue, api.ErrValue},
		{"cut 1 1,0 -1,-1", api.ErrNone, api.ErrNone},
		{"cut 1 1,0", api.ErrOpen, api.ErrOpen},
		{"best 1,1,1,1,1 x", api.ErrWord, api.ErrWord},
		{"best 1,1,1,1,1 1", api.ErrDim, api.ErrDim},
		{"best 1,1 1,1", api.ErrForm, api.ErrForm},
		{"best 21 1,0 -1,-1", api.ErrValue, api.ErrValue},
		{"best 1 1,0 -1,-1", api.ErrNone, api.ErrNone},
		{"best 1 -1,0", api.ErrOpen, api.ErrOpen},
		{"least 1,2", api.ErrForm, api.ErrForm},
		{"least 1,2 x", api.ErrWord, api.ErrWord},
		{"least 1" + strings.Repeat(" 1", api.MaxSide), api.ErrCount, api.ErrCount},
		{"planes 9 x", api.ErrWord, api.ErrWord},
		{"planes 4", api.ErrDim, api.ErrDim},
		{"planes 1 1", api.ErrForm, api.ErrForm},
		{"planes 1 0,1", api.ErrForm, api.ErrForm},
		{"planes 1 21,1", api.ErrValue, api.ErrValue},
		{"planes 1 1,2 2,4", api.ErrTwice, api.ErrTwice},
		{"planes 1" + strings.Repeat(" 1,1", api.MaxPlanes+1), api.ErrCount, api.ErrCount},

		{"matroid 9 x", api.ErrWord, api.ErrWord},
		{"matroid 9", api.ErrLimit, api.ErrLimit},
		{"matroid -1 0", api.ErrLimit, api.ErrLimit},
		{"matroid -9999", api.ErrLimit, api.ErrLimit},
		{"matroid 9999", api.ErrLimit, api.ErrLimit},
		{"matroid 2", api.ErrNone, api.ErrNone},
		{"matroid 2 4", api.ErrValue, api.ErrValue},
		{"matroid 2 2 1", api.ErrForm, api.ErrForm},
		{"matroid 4 3 12", api.ErrForm, api.ErrForm},
		{"graph 0 0,1,2 x", api.ErrWord, api.ErrWord},
		{"graph x 0,1,2", api.ErrWord, api.ErrWord},
		{"graph 0 0,1,2", api.ErrForm, api.ErrForm},
		{"graph 0 0", api.ErrForm, api.ErrForm},
		{"graph 2 9,9 0", api.ErrForm, api.ErrForm},
		{"graph 0 9,9", api.ErrLimit, api.ErrLimit},
		{"graph 2 0,2", api.ErrPlace, api.ErrPlace},
		{"graph 2 0,-1", api.ErrPlace, api.ErrPlace},
		{"orders 0 0,1,2 x", api.ErrWord, api.ErrWord},
		{"orders 0 0,1,2", api.ErrForm, api.ErrForm},
		{"orders 7 0", api.ErrForm, api.ErrForm},
		{"orders 7 0,9", api.ErrLimit, api.ErrLimit},
		{"orders 2" + strings.Repeat(" 0,1", 37), api.ErrCount, api.ErrCount},
		{"orders 2 0,2", api.ErrPlace, api.ErrPlace},
		{"orders 2 0,1 1,0", api.ErrForm, api.ErrForm},
		{"word 9 9 x", api.ErrWord, api.ErrWord},
		{"word 9 9", api.ErrDim, api.ErrDim},
		{"word 1" + strings.Repeat(" 5", api.MaxWord+1), api.ErrLimit, api.ErrLimit},
		{"word 1 2", api.ErrValue, api.ErrValue},

		{"roots ", api.ErrShort, api.ErrShort},
		{"roots A", api.ErrShort, api.ErrShort},
		{"roots E8", api.ErrWord, api.ErrWord},
		{"roots a1", api.ErrWord, api.ErrWord},
		{"roots A5", api.ErrKind, api.ErrKind},
		{"roots A4+A1", api.ErrDim, api.ErrDim},
		{"roots A1+A1+A1+A1+A1+A1+A1+A1", api.ErrLimit, api.ErrLimit},
		{"degrees A", api.ErrShort, api.ErrShort},
		{"degrees A,1", api.ErrWord, api.ErrWord},
		{"reduce A5 x", api.ErrKind, api.ErrKind},
		{"reduce A x", api.ErrShort, api.ErrShort},
		{"reduce A2 9 x", api.ErrWord, api.ErrWord},
		{"reduce A2 2", api.ErrPlace, api.ErrPlace},
		{"reduce A2" + strings.Repeat(" 9", api.MaxLetters+1), api.ErrLimit, api.ErrLimit},
		{"size A9 x", api.ErrKind, api.ErrKind},
		{"size A4 x", api.ErrWord, api.ErrWord},
		{"size A4 1", api.ErrDim, api.ErrDim},
		{"size A2", api.ErrCount, api.ErrCount},
		{"size A2 7", api.ErrCount, api.ErrCount},
		{"size A2 7 1", api.ErrValue, api.ErrValue},
		{"size A2 -1 1", api.ErrValue, api.ErrValue},
		{"marks  x", api.ErrShort, api.ErrShort},
		{"marks A2 1 x", api.ErrWord, api.ErrWord},
		{"marks A2 1", api.ErrCount, api.ErrCount},
		{"marks B3 3 3 3", api.ErrLimit, api.ErrLimit},
	} {
		if got, want := house.Session(c.line), fmt.Sprintf("error %d\n", c.alone); got != want {
			t.Errorf("%q: %q, want %q", c.line, got, want)
		}
		if got, want := house.Session(desk+c.line), fmt.Sprintf("2 4 4\n2 1 2\nerror %d\n", c.with); got != want {
			t.Errorf("%q, with something on the desk: %q, want %q", c.line, got, want)
		}
	}
}

// Q1: errors that only what stands on the desk can have.
func TestHouseErrorsOfTheDesk(t *testing.T) {
	checkSaid(t, []said{
		{"named cube 3", "3 8 6"},
		{"short", "error 3"},
		{"polar", "error 9"},
		{"points -100,-100,-100 100,0,0 0,100,0 0,0,100", "3 4 4"},
		{"places 1", "error 11"},
		{"inner 1", "error 11"},
		{"ehrhart", "error 11"},
		{"delta", "error 11"},
		{"places 0", "1"},
		{"short", "1 1 1 1"},
		{"counts", "1 4 6 4 1"},
	})
}

// Q1: the greatest that words can say.
func TestHouseTheMost(t *testing.T) {
	points := make([]string, api.MaxPoints)
	for i := range points {
		points[i] = strconv.Itoa(i)
	}
	bases := ""
	for s := range 1 << api.MaxGround {
		if bits.OnesCount(uint(s)) == 4 {
			bases += " " + strconv.Itoa(s)
		}
	}
	letters := strings.Repeat(" 0 1", api.MaxLetters/2)
	checkSaid(t, []said{
		{"points " + strings.Join(points, " "), "1 2 2"},
		{"corners", "0 23"},
		{"cyclic 1 24", "1 2 2"},
		{"matroid 8" + bases, "8 4 70"},
		{"dual", "8 4 70"},
		{"graph 7 0,1 1,2 2,3 3,4 4,5 5,6 6,0 0,0", "8 6 7"},
		{"circuits", "127 128"},
		{"reduce A2" + letters, "= 1 0"},
		{"size B3 6 6 6", "40353607"},
		{"orders 6" + strings.Repeat(" 0,1", 36), "360"},
		{"word 1 0 0 0 0 0 0 0 0", "9 0 0 0 0 0 0 0 0"},
		{"least" + strings.Repeat(" -9999,-9999,-9999,-9999,-9999,-9999", api.MaxSide), "-59994 0 1 2 3 4 5"},
	})
}
