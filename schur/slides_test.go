package schur_test

import (
	"math"
	"slices"
	"testing"

	"corsage/api"
	"corsage/schur"
)

// corners returns the rows whose last box is a corner.
func corners(l []int) []int {
	var rows []int
	for i := range l {
		if i+1 == len(l) || l[i] > l[i+1] {
			rows = append(rows, i)
		}
	}
	return rows
}

// isSkew reports whether s is a skew filling without rows that have no boxes.
func isSkew(s schur.Skew) bool {
	if len(s.Rows) < len(s.Inner) || slices.Contains(s.Inner, 0) {
		return false
	}
	last := math.MaxInt
	for i, row := range s.Rows {
		n := len(row) + inner(s.Inner, i)
		if n < 1 || n > last {
			return false
		}
		last = n
	}
	return inOrder(s.Rows, s.Inner)
}

// skews calls visit with all skew fillings of up to n boxes, those that are not there among them, that have a shape as their content.
func skews(n int, visit func(s schur.Skew)) {
	for _, c := range shapesUpTo(n) {
		for _, a := range shapesUpTo(sum(c)) {
			if !holds(c, a) {
				continue
			}
			for _, m := range shapesOf(sum(c) - sum(a)) {
				for _, rows := range skewFillings(c, a, m) {
					visit(schur.Skew{Inner: a, Rows: rows})
				}
			}
		}
	}
}

// P1.4: the hole goes below where both are equal, and rows without boxes are left out at the end only.
func TestSlideExamples(t *testing.T) {
	stairs := schur.Skew{Inner: []int{2, 1}, Rows: [][]int{{1, 3}, {1, 2}, {2}}}
	bare := schur.Skew{Inner: []int{2, 1}, Rows: [][]int{{}, {}}}
	for _, x := range []struct {
		s    schur.Skew
		row  int
		want schur.Skew
	}{
		{schur.Skew{Inner: []int{1}, Rows: [][]int{{1}, {1, 2}}}, 0, schur.Skew{Rows: [][]int{{1, 1}, {2}}}},
		{schur.Skew{Inner: []int{1}, Rows: [][]int{{1}, {2}}}, 0, schur.Skew{Rows: [][]int{{1}, {2}}}},
		{schur.Skew{Inner: []int{1}, Rows: [][]int{{2}, {1}}}, 0, schur.Skew{Rows: [][]int{{1, 2}}}},
		{schur.Skew{Inner: []int{1}, Rows: [][]int{{8}}}, 0, schur.Skew{Rows: [][]int{{8}}}},
		{schur.Skew{Inner: []int{1}, Rows: [][]int{nil, {3}}}, 0, schur.Skew{Rows: [][]int{{3}}}},
		{schur.Skew{Inner: []int{1}, Rows: [][]int{{}}}, 0, schur.Skew{}},
		{schur.Skew{Inner: []int{1}, Rows: [][]int{{1}, {2}, {}, nil}}, 0, schur.Skew{Rows: [][]int{{1}, {2}}}},
		{schur.Skew{Inner: []int{1}, Rows: append([][]int{{1}}, make([][]int, 19)...)}, 0, schur.Skew{Rows: [][]int{{1}}}},
		{bare, 0, schur.Skew{Inner: []int{1, 1}, Rows: [][]int{{}, {}}}},
		{bare, 1, schur.Skew{Inner: []int{2}, Rows: [][]int{{}}}},
		{stairs, 0, schur.Skew{Inner: []int{1, 1}, Rows: [][]int{{1, 1, 3}, {2}, {2}}}},
		{stairs, 1, schur.Skew{Inner: []int{2}, Rows: [][]int{{1, 3}, {1, 2}, {2}}}},
	} {
		got, e := schur.Slide(x.s, x.row)
		if e != api.OK || !sameSkew(got, x.want) {
			t.Error(x, got, e)
		}
	}
}

// P1.4
func TestStraightExamples(t *testing.T) {
	for _, x := range []struct {
		s    schur.Skew
		want [][]int
	}{
		{schur.Skew{Inner: []int{1}, Rows: [][]int{{1}, {1, 2}}}, [][]int{{1, 1}, {2}}},
		{schur.Skew{}, nil},
		{schur.Skew{Rows: make([][]int, 20)}, nil},
		{schur.Skew{Rows: [][]int{{1, 1}, {2}, {}}}, [][]int{{1, 1}, {2}}},
		{schur.Skew{Inner: []int{8}, Rows: [][]int{{}}}, nil},
		{schur.Skew{Inner: ones(8), Rows: make([][]int, 8)}, nil},
		{schur.Skew{Inner: ones(7), Rows: append(make([][]int, 7), []int{5})}, [][]int{{5}}},
		{schur.Skew{Inner: []int{3, 2, 1}, Rows: [][]int{{}, {}, {}, {4}}}, [][]int{{4}}},
		{schur.Skew{Inner: []int{2, 1}, Rows: [][]int{{1, 3}, {1, 2}, {2}}}, [][]int{{1, 1, 3}, {2, 2}}},
		{schur.Skew{Inner: []int{2, 1}, Rows: [][]int{{3}, {2}, {1}}}, [][]int{{1, 2, 3}}},
		{schur.Skew{Inner: []int{2, 1}, Rows: [][]int{{1}, {2}, {3}}}, [][]int{{1}, {2}, {3}}},
	} {
		if got, e := schur.Straight(x.s); e != api.OK || !sameRows(got, x.want) {
			t.Error(x, got, e)
		}
	}
}

// notSkews are Skews that are no skew fillings.
func notSkews() []schur.Skew {
	all := []schur.Skew{
		{Inner: []int{1}},
		{Inner: []int{1, 1}, Rows: [][]int{{1}}},
		{Rows: make([][]int, 21)},
		{Rows: append([][]int{{1}}, make([][]int, 20)...)},
		{Rows: make([][]int, 100000)},
		{Rows: [][]int{{}, {1}}},
		{Rows: [][]int{{1}, {}, {2}}},
		{Rows: [][]int{{1}, {2, 3}}},
		{Inner: []int{1}, Rows: [][]int{{}, {1, 2}}},
		{Inner: []int{2, 2}, Rows: [][]int{{}, {1}}},
		{Inner: []int{8}, Rows: [][]int{{1}}},
		{Inner: []int{4}, Rows: [][]int{{1}, {1, 2, 3, 4}}},
		{Rows: [][]int{ones(9)}},
		{Rows: [][]int{ones(5), {2, 2, 2, 2}}},
		{Rows: [][]int{{0}}},
		{Rows: [][]int{{9}}},
		{Rows: [][]int{{-1}}},
		{Rows: [][]int{{1, 0}}},
		{Rows: [][]int{{2, 1}}},
		{Rows: [][]int{{1}, {1}}},
		{Rows: [][]int{{2}, {1}}},
		{Inner: []int{1}, Rows: [][]int{{3, 2}}},
		{Inner: []int{1}, Rows: [][]int{{2}, {1, 2}}},
		{Inner: []int{1}, Rows: [][]int{{0}}},
		{Inner: []int{1}, Rows: [][]int{{math.MaxInt}, {math.MinInt}}},
		{Inner: []int{1}, Rows: [][]int{ones(1000)}},
	}
	for _, l := range notShapes() {
		all = append(all, schur.Skew{Inner: l, Rows: make([][]int, 20)})
	}
	return all
}

// P1.4
func TestSlideErrors(t *testing.T) {
	for _, s := range notSkews() {
		for _, row := range []int{-1, 0, 1} {
			if got, e := schur.Slide(s, row); e != api.ErrArg || got.Inner != nil || got.Rows != nil {
				t.Error(s, row, got, e)
			}
		}
		if got, e := schur.Straight(s); e != api.ErrArg || len(got) != 0 {
			t.Error(s, got, e)
		}
	}
	s := schur.Skew{Inner: []int{2, 2, 1}, Rows: [][]int{{}, {}, {1}, {1}}}
	for _, row := range []int{math.MinInt, -1, 0, 3, 4, 20, math.MaxInt} {
		if got, e := schur.Slide(s, row); e != api.ErrArg || got.Inner != nil || got.Rows != nil {
			t.Error(row, got, e)
		}
	}
	for _, row := range []int{1, 2} {
		if _, e := schur.Slide(s, row); e != api.OK {
			t.Error(row, e)
		}
	}
	if got, e := schur.Slide(schur.Skew{Rows: [][]int{{1}}}, 0); e != api.ErrArg || got.Rows != nil {
		t.Error(got, e)
	}
}

// ends returns all fillings to which slides in any order lead.
func ends(t *testing.T, s schur.Skew) [][][]int {
	t.Helper()
	if len(s.Inner) == 0 {
		return [][][]int{s.Rows}
	}
	var all [][][]int
	for _, row := range corners(s.Inner) {
		next, e := schur.Slide(s, row)
		if e != api.OK || !isSkew(next) || sum(next.Inner) != sum(s.Inner)-1 {
			t.Fatal(s, row, next, e)
		}
		all = append(all, ends(t, next)...)
	}
	return all
}

// P1.4, P1.11: every slide leaves a skew filling, every order of them leads to Straight, and the content stays.
func TestStraightDoesNotDependOnOrder(t *testing.T) {
	skews(6, func(s schur.Skew) {
		want, e := schur.Straight(s)
		if e != api.OK || !slices.Equal(contentOf(want), contentOf(s.Rows)) || !isSkew(schur.Skew{Rows: want}) {
			t.Fatal(s, want, e)
		}
		for _, got := range ends(t, s) {
			if !sameRows(got, want) {
				t.Error(s, got, want)
			}
		}
	})
}

// P1.11
func TestStraightAndRule(t *testing.T) {
	for _, c := range shapesUpTo(6) {
		for _, a := range shapesUpTo(sum(c)) {
			if !holds(c, a) {
				continue
			}
			for _, m := range shapesOf(sum(c) - sum(a)) {
				countEnds(t, c, a, m)
			}
		}
	}
}

// countEnds compares, for each filling with the content m, how many skew fillings of c without a lead to it with Rule.
func countEnds(t *testing.T, c, a, m []int) {
	t.Helper()
	var all [][][]int
	for _, rows := range skewFillings(c, a, m) {
		end, e := schur.Straight(schur.Skew{Inner: a, Rows: rows})
		if e != api.OK {
			t.Fatal(c, a, rows, e)
		}
		all = append(all, end)
	}
	for _, b := range shapesOf(sum(m)) {
		want := rule(t, a, b, c)
		for _, f := range skewFillings(b, nil, m) {
			got := 0
			for _, end := range all {
				if sameRows(end, f) {
					got++
				}
			}
			if got != want {
				t.Error(c, a, f, got, want)
			}
		}
	}
}

// P1.5
func TestSwapExamples(t *testing.T) {
	for _, x := range []struct {
		rows [][]int
		k    int
		want [][]int
	}{
		{[][]int{{1, 1, 2}, {2}}, 1, [][]int{{1, 1, 2}, {2}}},
		{[][]int{{1, 1, 1}, {2}}, 1, [][]int{{1, 2, 2}, {2}}},
		{[][]int{{1, 1, 1, 2}, {2, 3}}, 1, [][]int{{1, 1, 2, 2}, {2, 3}}},
		{[][]int{{2, 2, 5, 5}}, 2, [][]int{{3, 3, 5, 5}}},
		{[][]int{{1, 1}, {3, 3}}, 1, [][]int{{2, 2}, {3, 3}}},
		{[][]int{{7}, {8}}, 7, [][]int{{7}, {8}}},
		{[][]int{{8}}, 7, [][]int{{7}}},
		{[][]int{{1}}, 7, [][]int{{1}}},
		{nil, 1, nil},
		{[][]int{{1, 1, 1, 2}, {2, 2}, {3, 4}}, 2, [][]int{{1, 1, 1, 3}, {2, 3}, {3, 4}}},
	} {
		if got, e := schur.Swap(x.rows, x.k); e != api.OK || !sameRows(got, x.want) {
			t.Error(x, got, e)
		}
	}
}

// P1.5
func TestSwapErrors(t *testing.T) {
	for _, k := range []int{math.MinInt, -1, 0, 8, 9, math.MaxInt} {
		if got, e := schur.Swap([][]int{{1}}, k); e != api.ErrArg || len(got) != 0 {
			t.Error(k, got, e)
		}
	}
	for _, rows := range [][][]int{{{}}, {{1}, {}}, {{}, {1}}, {{0}}, {{9}}, {{-1}}, {{0, 1}}, {{2, 1}}, {{1}, {1}}, {{2}, {1}}, {{1}, {2, 2}}, {{math.MaxInt}},
		{{math.MinInt}}, {ones(9)}, {ones(5), {2, 2, 2, 2}}, make([][]int, 9), make([][]int, 100000)} {
		for k := 1; k < 8; k++ {
			if got, e := schur.Swap(rows, k); e != api.ErrArg || len(got) != 0 {
				t.Error(rows, k, got, e)
			}
		}
	}
}

// P1.5, P1.8: Swap gives fillings, changes only k and k + 1, exchanges how often they occur, and undoes itself.
func TestSwapTwice(t *testing.T) {
	for _, l := range shapesUpTo(6) {
		for _, rows := range fillingsOf(t, l, 4) {
			for k := 1; k <= 4; k++ {
				swapBothWays(t, rows, k)
			}
		}
	}
}

func swapBothWays(t *testing.T, rows [][]int, k int) {
	t.Helper()
	once, e := schur.Swap(rows, k)
	if e != api.OK || len(rows) > 0 && !isSkew(schur.Skew{Rows: once}) {
		t.Fatal(rows, k, once, e)
	}
	m := contentOf(rows)
	m[k-1], m[k] = m[k], m[k-1]
	if !slices.Equal(contentOf(once), m) {
		t.Error(rows, k, once)
	}
	for i, row := range rows {
		for j, n := range row {
			if was := n == k || n == k+1; was != (once[i][j] == k || once[i][j] == k+1) || !was && once[i][j] != n {
				t.Error(rows, k, once)
			}
		}
	}
	if twice, e := schur.Swap(once, k); e != api.OK || !sameRows(twice, rows) {
		t.Error(rows, k, once, twice, e)
	}
}

// P1.4, P1.5: results are new memory, and arguments stay.
func TestSlidesShareNothing(t *testing.T) {
	s := schur.Skew{Inner: []int{2, 1}, Rows: [][]int{{1, 3}, {1, 2}, {2}}}
	kept := schur.Skew{Inner: slices.Clone(s.Inner), Rows: [][]int{{1, 3}, {1, 2}, {2}}}
	slid, _ := schur.Slide(s, 0)
	straight, _ := schur.Straight(s)
	flat := schur.Skew{Rows: [][]int{{1, 1}, {2}}}
	same, _ := schur.Straight(flat)
	swapped, _ := schur.Swap(flat.Rows, 1)
	scribble(slid.Inner, 70)
	for n, rows := range [][][]int{slid.Rows, straight, same, swapped} {
		for i, row := range rows {
			scribble(row, 80+10*n+i)
		}
	}
	if !sameSkew(s, kept) || !sameSkew(flat, schur.Skew{Rows: [][]int{{1, 1}, {2}}}) {
		t.Error(s, flat)
	}
	if slid.Inner[0] != 70 || slid.Rows[0][0] != 80 || slid.Rows[1][0] != 81 || straight[0][0] != 90 || straight[1][0] != 91 || same[0][0] != 100 || swapped[0][0] != 110 {
		t.Error(slid, straight, same, swapped)
	}
}

// scribble overwrites a slice and what it could grow into.
func scribble(l []int, n int) {
	for i := range l[:cap(l)] {
		l[:cap(l)][i] = n
	}
}
