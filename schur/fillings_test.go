package schur_test

import (
	"math"
	"slices"
	"testing"

	"corsage/api"
	"corsage/schur"
)

// P1.1, against all ways to place the numbers.
func TestFillingsAreAllAndRising(t *testing.T) {
	for _, l := range shapesUpTo(5) {
		for _, m := range contents(sum(l), 4) {
			want := skewFillings(l, nil, m)
			got, e := schur.Fillings(l, m)
			if e != api.OK || !slices.EqualFunc(got, want, sameRows) {
				t.Error(l, m, got, want, e)
			}
			if n, e := schur.Kostka(l, m); n != len(want) || e != api.OK {
				t.Error(l, m, n, e)
			}
		}
	}
}

// P1.1
func TestFillingsExamples(t *testing.T) {
	for _, x := range []struct {
		l, m []int
		want [][][]int
	}{
		{[]int{2, 1}, []int{1, 1, 1}, [][][]int{{{1, 2}, {3}}, {{1, 3}, {2}}}},
		{nil, nil, [][][]int{{}}},
		{[]int{}, []int{0, 0}, [][][]int{{}}},
		{[]int{1}, []int{0, 0, 0, 0, 0, 0, 0, 1}, [][][]int{{{8}}}},
		{[]int{1}, nil, nil},
		{nil, []int{1}, nil},
		{[]int{1, 1}, []int{2}, nil},
		{[]int{8}, []int{3, 0, 5}, [][][]int{{{1, 1, 1, 3, 3, 3, 3, 3}}}},
		{ones(8), ones(8), [][][]int{{{1}, {2}, {3}, {4}, {5}, {6}, {7}, {8}}}},
	} {
		got, e := schur.Fillings(x.l, x.m)
		if e != api.OK || !slices.EqualFunc(got, x.want, sameRows) {
			t.Error(x, got, e)
		}
		if n, e := schur.Kostka(x.l, x.m); n != len(x.want) || e != api.OK {
			t.Error(x, n, e)
		}
	}
}

// P1.1: of the fillings with 8 boxes, only the count is compared, with the square of it summed over all shapes: the factorial.
func TestFillingsOfEightBoxes(t *testing.T) {
	squares := 0
	for _, l := range shapesOf(8) {
		all, e := schur.Fillings(l, ones(8))
		rising := slices.IsSortedFunc(all, func(a, b [][]int) int { return slices.CompareFunc(a, b, slices.Compare[[]int]) })
		if e != api.OK || !rising {
			t.Error(l, e)
		}
		squares += len(all) * len(all)
	}
	if squares != factorial(8) {
		t.Error(squares)
	}
}

// P1.1, P1.2, P1.6: what is no shape or content.
func TestFillingsOfNoShape(t *testing.T) {
	for _, l := range notShapes() {
		f, e1 := schur.Fillings(l, ones(3))
		n, e2 := schur.Kostka(l, nil)
		v, e3 := schur.Schur(l, []int{1})
		s, e4 := schur.Standard(l)
		if len(f) != 0 || n != 0 || v != 0 || s != 0 || e1 != api.ErrArg || e2 != api.ErrArg || e3 != api.ErrArg || e4 != api.ErrArg {
			t.Error(l, f, n, v, s, e1, e2, e3, e4)
		}
	}
	for _, m := range notContents() {
		f, e1 := schur.Fillings([]int{2, 1}, m)
		n, e2 := schur.Kostka(nil, m)
		if len(f) != 0 || n != 0 || e1 != api.ErrArg || e2 != api.ErrArg {
			t.Error(m, f, n, e1, e2)
		}
	}
}

// P1.1: results are new memory, and arguments stay.
func TestFillingsShareNothing(t *testing.T) {
	l, m := []int{2, 1}, []int{1, 1, 1}
	all, _ := schur.Fillings(l, m)
	for i := range all {
		for j := range all[i] {
			row := all[i][j]
			for k := range row[:cap(row)] {
				row[:cap(row)][k] = 100*i + 10*j
			}
		}
	}
	if !slices.Equal(l, []int{2, 1}) || !slices.Equal(m, []int{1, 1, 1}) {
		t.Error(l, m)
	}
	if all[0][0][0] != 0 || all[0][1][0] != 10 || all[1][0][0] != 100 || all[1][1][0] != 110 {
		t.Error(all)
	}
}

// P1.2
func TestSchurExamples(t *testing.T) {
	for _, x := range []struct {
		l, x []int
		want int
	}{
		{[]int{2, 1}, []int{1, 1}, 2},
		{[]int{2, 1}, []int{2, 3}, 30},
		{[]int{2, 1}, []int{0, 3}, 0},
		{nil, []int{3}, 1},
		{nil, []int{0, 0, 0, 0}, 1},
		{[]int{8}, []int{-3}, 6561},
		{[]int{7}, []int{-3}, -2187},
		{[]int{1, 1}, []int{3}, 0},
		{[]int{1, 1, 1, 1}, []int{-1, 2, -3, 3}, 18},
		{[]int{1}, []int{-1, 2, -3, 3}, 1},
	} {
		if n, e := schur.Schur(x.l, x.x); n != x.want || e != api.OK {
			t.Error(x, n, e)
		}
	}
	for _, x := range [][]int{nil, {}, {1, 1, 1, 1, 1}, {4}, {-4}, {1, 2, 4}, {math.MaxInt}, {math.MinInt, 1}, make([]int, 1000)} {
		if n, e := schur.Schur([]int{2, 1}, x); n != 0 || e != api.ErrArg {
			t.Error(x, n, e)
		}
	}
}

// P1.2, by its definition.
func TestSchurIsTheSumOverFillings(t *testing.T) {
	for _, l := range shapesUpTo(5) {
		for _, x := range [][]int{{2}, {-3, 2}, {1, -2, 3}, {3, -1, 2, -2}} {
			want := 0
			for _, rows := range fillingsOf(t, l, len(x)) {
				product := 1
				for _, row := range rows {
					for _, n := range row {
						product *= x[n-1]
					}
				}
				want += product
			}
			if n, e := schur.Schur(l, x); n != want || e != api.OK {
				t.Error(l, x, n, want, e)
			}
		}
	}
}

// P1.7
func TestKostkaOfContents(t *testing.T) {
	for n := range 7 {
		for _, l := range shapesOf(n) {
			if k, e := schur.Kostka(l, l); k != 1 || e != api.OK {
				t.Error(l, k, e)
			}
			for _, m := range contents(n, 4) {
				sorted := slices.Clone(m)
				slices.SortFunc(sorted, func(a, b int) int { return b - a })
				got, _ := schur.Kostka(l, m)
				want, _ := schur.Kostka(l, sorted)
				if got != want || !covers(l, sorted) && got != 0 || covers(l, sorted) && got == 0 {
					t.Error(l, m, got, want)
				}
			}
		}
	}
}

// covers reports whether, for every k, the first k of l sum to at least the first k of m.
func covers(l, m []int) bool {
	for k := range len(m) + 1 {
		if sum(l[:min(k, len(l))]) < sum(m[:k]) {
			return false
		}
	}
	return true
}

// P1.9
func TestSchurDoesNotDependOnOrder(t *testing.T) {
	for _, l := range shapesUpTo(8) {
		want, _ := schur.Schur(l, []int{-3, -1, 2, 3})
		for _, x := range [][]int{{3, 2, -1, -3}, {-1, -3, 3, 2}, {2, -3, 3, -1}} {
			if got, e := schur.Schur(l, x); got != want || e != api.OK {
				t.Error(l, x, got, want, e)
			}
		}
	}
}

// P1.9
func TestSchurIsADeterminant(t *testing.T) {
	for _, l := range shapesUpTo(8) {
		for _, x := range [][]int{{-2}, {3, -1}, {1, 2, -3}, {2, -1, 3, 1}} {
			want := determinant(len(l), func(i, j int) int { return single(t, l[i]-i+j, x) })
			if got, e := schur.Schur(l, x); got != want || e != api.OK {
				t.Error(l, x, got, want, e)
			}
		}
	}
}

// single returns Schur of the shape n alone, 1 for n = 0, 0 below.
func single(t *testing.T, n int, x []int) int {
	t.Helper()
	if n < 0 {
		return 0
	}
	var l []int
	if n > 0 {
		l = []int{n}
	}
	v, e := schur.Schur(l, x)
	if e != api.OK {
		t.Fatal(n, x, e)
	}
	return v
}

// determinant sums over all permutations, taken row by row.
func determinant(n int, entry func(i, j int) int) int {
	total := 0
	var take func(p []int, product int)
	take = func(p []int, product int) {
		if len(p) == n {
			total += product
			return
		}
		for j := range n {
			if slices.Contains(p, j) {
				continue
			}
			sign := 1
			for _, k := range p {
				if k > j {
					sign = -sign
				}
			}
			if v := entry(len(p), j); v != 0 {
				take(append(slices.Clone(p), j), product*sign*v)
			}
		}
	}
	take(nil, 1)
	return total
}
