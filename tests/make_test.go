package tests

import (
	"regexp"
	"slices"
	"strings"
	"testing"

	"facet/api"
	"facet/root"
)

// R3
func TestRootMake(t *testing.T) {
	for _, name := range allNames() {
		if got, e := root.Make(name); e != api.OK || !alike(got, writtenSquare(name)) {
			t.Errorf("root.Make(%q) = %v, %d, want %v", name, got, e, writtenSquare(name))
		}
	}
}

// R3: the document's example.
func TestRootMakeAndName(t *testing.T) {
	c, e := root.Make("B2+A1")
	if e != api.OK || !alike(c, [][]int{{2, -2, 0}, {-1, 2, 0}, {0, 0, 2}}) {
		t.Errorf("root.Make(B2+A1) = %v, %d", c, e)
	}
	if name, e := root.Name(c); e != api.OK || name != "A1+B2" {
		t.Errorf("root.Name(%v) = %q, %d", c, name, e)
	}
}

type makeCase struct {
	name string
	want api.Errno
}

func makeCases() []makeCase {
	return []makeCase{
		{strings.Repeat("A", 21), api.ErrLimit},
		{strings.Repeat("+", 21), api.ErrLimit},
		{"A1+A1+A1+A1+A1+A1+A1+", api.ErrLimit},
		{"A1+" + strings.Repeat("é", 9), api.ErrLimit},
		{"A1+" + strings.Repeat("é", 8), api.ErrWord},
		{strings.Repeat("A", 20), api.ErrWord},
		{strings.Repeat("+", 20), api.ErrShort},
		{"A1+A1+A1+A1+A1+A1+A1", api.ErrDim},

		{"", api.ErrShort},
		{"+", api.ErrShort},
		{"+A1", api.ErrShort},
		{"A1+", api.ErrShort},
		{"A1++A1", api.ErrShort},
		{"+x", api.ErrShort},
		{"A", api.ErrShort},
		{"G", api.ErrShort},
		{"A1+B", api.ErrShort},
		{"A+A1", api.ErrShort},
		{"A+x", api.ErrShort},

		{"x", api.ErrWord},
		{"E6", api.ErrWord},
		{"a1", api.ErrWord},
		{"H3", api.ErrWord},
		{"1A", api.ErrWord},
		{"1", api.ErrWord},
		{"A0", api.ErrWord},
		{"AA", api.ErrWord},
		{"A:", api.ErrWord},
		{"A/", api.ErrWord},
		{"@1", api.ErrWord},
		{"A-1", api.ErrWord},
		{"A10", api.ErrWord},
		{"A11", api.ErrWord},
		{"A1 ", api.ErrWord},
		{" A1", api.ErrWord},
		{"A1 +A1", api.ErrWord},
		{"A5x", api.ErrWord},
		{"A1\n", api.ErrWord},
		{"A\x00", api.ErrWord},
		{"\x00", api.ErrWord},
		{"\xff", api.ErrWord},
		{"A\xff", api.ErrWord},
		{"A1\xff", api.ErrWord},
		{"\ufffd1", api.ErrWord},
		{"A\ufffd", api.ErrWord},
		{"А1", api.ErrWord},
		{"A١", api.ErrWord},
		{"A²", api.ErrWord},
		{"é", api.ErrWord},
		{"E", api.ErrWord},

		{"A5", api.ErrKind},
		{"A9", api.ErrKind},
		{"B1", api.ErrKind},
		{"B5", api.ErrKind},
		{"C1", api.ErrKind},
		{"C2", api.ErrKind},
		{"C5", api.ErrKind},
		{"D1", api.ErrKind},
		{"D3", api.ErrKind},
		{"D5", api.ErrKind},
		{"F1", api.ErrKind},
		{"F3", api.ErrKind},
		{"F5", api.ErrKind},
		{"G1", api.ErrKind},
		{"G3", api.ErrKind},
		{"G4", api.ErrKind},
		{"A4+A5", api.ErrKind},

		{"A4+A1", api.ErrDim},
		{"F4+A1", api.ErrDim},
		{"B2+G2+A1", api.ErrDim},
		{"A2+A3", api.ErrDim},

		{"A4+A1+", api.ErrDim},
		{"A4+A1+x", api.ErrDim},
		{"A4+A1+A9", api.ErrDim},
		{"A4++A1", api.ErrShort},
		{"A4+x+A1", api.ErrWord},
		{"A9+A4+A1", api.ErrKind},
		{"A9+x", api.ErrKind},
		{"A9+", api.ErrKind},
		{"x+A9", api.ErrWord},
		{"x+", api.ErrWord},
		{"A4+C2", api.ErrKind},
	}
}

// R3
func TestRootMakeErrors(t *testing.T) {
	for _, c := range makeCases() {
		if got, e := root.Make(c.name); e != c.want || len(got) > 0 {
			t.Errorf("root.Make(%q) = %v, %d, want %d", c.name, got, e, c.want)
		}
	}
}

// makeByWords is R3's error.
func makeByWords(name string) api.Errno {
	if len(name) > 20 {
		return api.ErrLimit
	}
	rank := 0
	for _, piece := range strings.Split(name, "+") {
		switch {
		case piece == "":
			return api.ErrShort
		case !regexp.MustCompile(`^[ABCDFG]([1-9]|$)$`).MatchString(piece):
			return api.ErrWord
		case len(piece) == 1:
			return api.ErrShort
		case !regexp.MustCompile(`^(A[1-4]|B[2-4]|C[34]|D4|F4|G2)$`).MatchString(piece):
			return api.ErrKind
		}
		if rank += int(piece[1] - '0'); rank > 4 {
			return api.ErrDim
		}
	}
	return api.OK
}

// R3: of all texts of three signs, and of drawn ones.
func TestRootMakeByWords(t *testing.T) {
	signs := []string{"A", "B", "C", "D", "E", "F", "G", "0", "1", "2", "3", "4", "5", "+", "é", "\xc3"}
	times := map[api.Errno]int{}
	check := func(name string) {
		got, e := root.Make(name)
		want := makeByWords(name)
		if e != want || (e == api.OK) != (len(got) > 0) {
			t.Errorf("root.Make(%q) = %v, %d, want %d", name, got, e, want)
		}
		times[want]++
	}
	for number := range power(len(signs), 3) {
		check(signs[number%16] + signs[number/16%16] + signs[number/256])
		check(signs[number%16] + signs[number/16%16])
	}
	d := die(311)
	for range 3000 {
		var pieces []string
		for range 1 + d.below(7) {
			pieces = append(pieces, signs[d.below(7)]+signs[8+d.below(3)]+strings.Repeat("1", d.below(12)/11))
		}
		check(strings.Join(pieces, "+"))
	}
	for _, e := range []api.Errno{api.OK, api.ErrLimit, api.ErrShort, api.ErrWord, api.ErrKind, api.ErrDim} {
		if times[e] < 20 {
			t.Errorf("error %d was there %d times only", e, times[e])
		}
	}
}

// R3: a name that is made is told again, its pieces in order.
func TestRootMadeIsNamed(t *testing.T) {
	for _, name := range allNames() {
		c, _ := root.Make(name)
		pieces := strings.Split(name, "+")
		slices.Sort(pieces)
		if got, e := root.Name(c); e != api.OK || got != strings.Join(pieces, "+") {
			t.Errorf("root.Name of %s = %q, %d", name, got, e)
		}
	}
}

// Z2: what one square is written into stays out of the next one.
func TestRootMakeFresh(t *testing.T) {
	first, _ := root.Make("A2+B2")
	again, _ := root.Make("A2+B2")
	if !apart(first, again) || !apart(slices.Concat(first, again)...) {
		t.Error("rows share memory")
	}
	for _, row := range first {
		for i := range row {
			row[i] = mark
		}
	}
	third, e := root.Make("A2+B2")
	name, _ := root.Name(third)
	if e != api.OK || !alike(third, again) || name != "A2+B2" {
		t.Errorf("root.Make = %v, %d, %q", third, e, name)
	}
}
