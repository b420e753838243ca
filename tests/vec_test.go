package tests

import (
	"slices"
	"testing"

	"facet/api"
	"facet/vec"
)

// detByHand is the determinant by Laplace's rule.
func detByHand(m [][]int) int {
	if len(m) == 0 {
		return 1
	}
	sum, sign := 0, 1
	for j := range m {
		var minor [][]int
		for _, row := range m[1:] {
			minor = append(minor, slices.Delete(slices.Clone(row), j, j+1))
		}
		sum += sign * m[0][j] * detByHand(minor)
		sign = -sign
	}
	return sum
}

// rankByMinors is the size of the greatest square within m whose determinant isn't 0.
func rankByMinors(m [][]int) int {
	for size := min(len(m), len(m[0])); size > 0; size-- {
		for _, rows := range choices(len(m), size) {
			for _, columns := range choices(len(m[0]), size) {
				var square [][]int
				for _, i := range rows {
					var row []int
					for _, j := range columns {
						row = append(row, m[i][j])
					}
					square = append(square, row)
				}
				if detByHand(square) != 0 {
					return size
				}
			}
		}
	}
	return 0
}

// hangingRows draws rows of which some are sums of others, as often as not.
func hangingRows(d *die, rows, columns int) [][]int {
	m := d.lists(rows, columns, 3)
	for i := range rows {
		if i < 2 || d.below(2) == 0 {
			continue
		}
		a, b := d.below(5)-2, d.below(5)-2
		for j := range columns {
			m[i][j] = a*m[0][j] + b*m[1][j]
		}
	}
	return m
}

// A2
func TestVecPrimitive(t *testing.T) {
	for _, c := range []struct{ l, want []int }{
		{[]int{1}, []int{1}},
		{[]int{7}, []int{1}},
		{[]int{-7}, []int{-1}},
		{[]int{0}, []int{0}},
		{[]int{0, 0, 0, 0, 0}, []int{0, 0, 0, 0, 0}},
		{[]int{6, 10, 15}, []int{6, 10, 15}},
		{[]int{12, 18, 30}, []int{2, 3, 5}},
		{[]int{-12, 18, -30}, []int{-2, 3, -5}},
		{[]int{0, -8, 0, 12}, []int{0, -2, 0, 3}},
		{[]int{-4, -6}, []int{-2, -3}},
		{[]int{4, 0}, []int{1, 0}},
		{[]int{60, -60, 60, -60, 60}, []int{1, -1, 1, -1, 1}},
		{[]int{60, 59}, []int{60, 59}},
		{[]int{-60, 24, 36, 48, 0}, []int{-5, 2, 3, 4, 0}},
	} {
		if got, e := vec.Primitive(c.l); e != api.OK || !slices.Equal(got, c.want) {
			t.Errorf("vec.Primitive(%v) = %v, %d, want %v", c.l, got, e, c.want)
		}
	}
}

// A2
func TestVecRank(t *testing.T) {
	for _, c := range []struct {
		m    [][]int
		want int
	}{
		{[][]int{{0}}, 0},
		{[][]int{{-3}}, 1},
		{[][]int{{0, 0}, {0, 0}}, 0},
		{[][]int{{2, 4}, {3, 6}}, 1},
		{[][]int{{2, 4}, {3, 7}}, 2},
		{[][]int{{0, 0, 1}, {0, 2, 0}, {3, 0, 0}}, 3},
		{[][]int{{0, 1, 0}, {0, 0, 1}}, 2},
		{[][]int{{1, 2, 3}, {4, 5, 6}, {7, 8, 9}}, 2},
		{[][]int{{1}, {2}, {3}}, 1},
		{[][]int{{60, -60, 60, -60, 60}}, 1},
		{[][]int{{60, 60}, {60, 59}}, 2},
		{append(repeat([]int{1, 1, 1, 1, 1}, api.MaxPoints-1), []int{1, 1, 1, 1, 2}), 2},
		{repeat([]int{0, 0, 0, 0, 0}, api.MaxPoints), 0},
	} {
		if got, e := vec.Rank(c.m); e != api.OK || got != c.want {
			t.Errorf("vec.Rank(%v) = %d, %d, want %d", c.m, got, e, c.want)
		}
	}
}

// A2
func TestVecRankAgainstMinors(t *testing.T) {
	d := die(1)
	for range 400 {
		m := hangingRows(&d, 1+d.below(6), 1+d.below(5))
		if got, e := vec.Rank(m); e != api.OK || got != rankByMinors(m) {
			t.Errorf("vec.Rank(%v) = %d, %d, want %d", m, got, e, rankByMinors(m))
		}
	}
}

// A2
func TestVecDet(t *testing.T) {
	for _, c := range []struct {
		m    [][]int
		want int
	}{
		{[][]int{{0}}, 0},
		{[][]int{{-5}}, -5},
		{[][]int{{0, 1}, {1, 0}}, -1},
		{[][]int{{1, 2}, {3, 4}}, -2},
		{[][]int{{1, 2, 3}, {4, 5, 6}, {7, 8, 9}}, 0},
		{[][]int{{0, 0, 1}, {1, 0, 0}, {0, 1, 0}}, 1},
		{[][]int{{0, 0, 0, 0, 60}, {0, 0, 0, 60, 0}, {0, 0, 60, 0, 0}, {0, 60, 0, 0, 0}, {60, 0, 0, 0, 0}}, 777600000},
		{[][]int{{-60, 60, 60, 60, 60}, {60, -60, 60, 60, 60}, {60, 60, -60, 60, 60}, {60, 60, 60, -60, 60}, {60, 60, 60, 60, -60}}, 48 * 777600000},
	} {
		if got, e := vec.Det(c.m); e != api.OK || got != c.want {
			t.Errorf("vec.Det(%v) = %d, %d, want %d", c.m, got, e, c.want)
		}
	}
}

// A2, at the bound, too
func TestVecDetAgainstLaplace(t *testing.T) {
	d := die(2)
	for range 400 {
		n := 1 + d.below(5)
		for _, most := range []int{1, 4, api.MaxValue} {
			m := d.lists(n, n, most)
			if got, e := vec.Det(m); e != api.OK || got != detByHand(m) {
				t.Errorf("vec.Det(%v) = %d, %d, want %d", m, got, e, detByHand(m))
			}
		}
	}
}

// A2: what isn't square is of no form, but what Check says comes first.
func TestVecDetErrors(t *testing.T) {
	for _, c := range []struct {
		m    [][]int
		want api.Errno
	}{
		{[][]int{{1, 2}}, api.ErrForm},
		{[][]int{{1}, {2}}, api.ErrForm},
		{repeat([]int{1, 2, 3, 4, 5}, 4), api.ErrForm},
		{repeat([]int{1, 2, 3, 4, 5}, 6), api.ErrForm},
		{[][]int{{1, 61}}, api.ErrValue},
		{repeat([]int{1, 2, 3}, 25), api.ErrCount},
	} {
		if got, e := vec.Det(c.m); e != c.want || got != 0 {
			t.Errorf("vec.Det(%v) = %d, %d, want error %d", c.m, got, e, c.want)
		}
	}
}

// A2
func TestVecNormal(t *testing.T) {
	for _, c := range []struct {
		m    [][]int
		want []int
	}{
		{[][]int{{1, 2, 3}, {0, 1, 1}}, []int{1, 1, -1}},
		{[][]int{{0, 5}}, []int{1, 0}},
		{[][]int{{-5, 0}}, []int{0, 1}},
		{[][]int{{6, 4}}, []int{2, -3}},
		{[][]int{{6, -4}, {-3, 2}, {0, 0}}, []int{2, 3}},
		{[][]int{{0, 0, 1}, {0, 1, 0}}, []int{1, 0, 0}},
		{[][]int{{1, 0, 0}, {0, 0, 1}}, []int{0, 1, 0}},
		{[][]int{{0, 1, 2, 3, 4}, {0, 0, 1, 2, 3}, {0, 0, 0, 1, 2}, {0, 0, 0, 0, 1}}, []int{1, 0, 0, 0, 0}},
		{repeat([]int{60, -59}, api.MaxPoints), []int{59, 60}},
	} {
		if got, e := vec.Normal(c.m); e != api.OK || !slices.Equal(got, c.want) {
			t.Errorf("vec.Normal(%v) = %v, %d, want %v", c.m, got, e, c.want)
		}
	}
}

// A2: rows of one number have no normal, whatever they are; then the rank is asked.
func TestVecNormalErrors(t *testing.T) {
	for _, c := range []struct {
		m    [][]int
		want api.Errno
	}{
		{[][]int{{0}}, api.ErrDim},
		{[][]int{{5}}, api.ErrDim},
		{[][]int{{1}, {2}}, api.ErrDim},
		{[][]int{{61}}, api.ErrValue},
		{[][]int{{0, 0}}, api.ErrFlat},
		{[][]int{{1, 0}, {0, 1}}, api.ErrFlat},
		{[][]int{{1, 2, 3}}, api.ErrFlat},
		{[][]int{{1, 2, 3}, {2, 4, 6}}, api.ErrFlat},
		{[][]int{{1, 2, 3}, {0, 1, 1}, {0, 0, 1}}, api.ErrFlat},
		{repeat([]int{1, 2, 3, 4, 5}, api.MaxPoints), api.ErrFlat},
	} {
		if got, e := vec.Normal(c.m); e != c.want || len(got) != 0 {
			t.Errorf("vec.Normal(%v) = %v, %d, want error %d", c.m, got, e, c.want)
		}
	}
}

func isNormal(n []int, m [][]int) bool {
	for _, row := range m {
		sum := 0
		for j := range row {
			sum += row[j] * n[j]
		}
		if sum != 0 {
			return false
		}
	}
	common := 0
	for _, v := range n {
		for v != 0 {
			common, v = v, common%v
		}
	}
	first := slices.IndexFunc(n, func(v int) bool { return v != 0 })
	return len(n) == len(m[0]) && (common == 1 || common == -1) && n[first] > 0
}

// A2: there is one just if the rank is one less than a row has numbers.
func TestVecNormalIsNormal(t *testing.T) {
	d := die(3)
	found := 0
	for range 600 {
		columns := 2 + d.below(4)
		m := hangingRows(&d, max(1, columns-2+d.below(3)), columns)
		if d.below(3) == 0 {
			m = d.lists(columns-1, columns, api.MaxValue)
		}
		got, e := vec.Normal(m)
		if rankByMinors(m) != columns-1 {
			if e != api.ErrFlat || len(got) != 0 {
				t.Errorf("vec.Normal(%v) = %v, %d, want error %d", m, got, e, api.ErrFlat)
			}
			continue
		}
		found++
		if e != api.OK || !isNormal(got, m) {
			t.Errorf("vec.Normal(%v) = %v, %d, which is none", m, got, e)
		}
	}
	if found < 100 {
		t.Errorf("only %d had a normal", found)
	}
}

// Z2: nothing is written into, nothing behind it is read, and the answer is the caller's.
func TestVecListsStayAsTheyAre(t *testing.T) {
	was := [][]int{{0, 4, 6, 2}, {2, 2, 2, 4}, {4, 0, 8, 0}}
	square := append(copied(was), []int{0, 0, 2, 2})
	normal := []int{6, 7, -3, -5}
	m, s := roomyLists(was), roomyLists(square)
	if e := vec.Check(m); e != api.OK {
		t.Errorf("Check = %d", e)
	}
	if r, e := vec.Rank(m); r != 3 || e != api.OK {
		t.Errorf("Rank = %d, %d", r, e)
	}
	if d, e := vec.Det(s); d != detByHand(square) || e != api.OK {
		t.Errorf("Det = %d, %d", d, e)
	}
	n, e := vec.Normal(m)
	if e != api.OK || !slices.Equal(n, normal) {
		t.Errorf("Normal = %v, %d, want %v", n, e, normal)
	}
	if !untouchedLists(m, was) || !untouchedLists(s, square) {
		t.Error("what was handed in is not as it was")
	}
	if !apart(append(m, n)...) {
		t.Error("Normal's answer shares memory with its argument")
	}
}

// Z2
func TestVecPrimitiveIsFresh(t *testing.T) {
	for _, was := range [][]int{{4, 6}, {4, 7}, {0, 0}, {1}} {
		l := roomy(was)
		got, _ := vec.Primitive(l)
		again, _ := vec.Primitive(l)
		want := slices.Clone(got)
		if !untouched(l, was) {
			t.Errorf("%v is not as it was", was)
		}
		if !slices.Equal(again, want) {
			t.Errorf("vec.Primitive(%v) = %v, then %v", was, want, again)
		}
		if !apart(l, got, again) {
			t.Errorf("vec.Primitive(%v) shares memory", was)
		}
	}
}
