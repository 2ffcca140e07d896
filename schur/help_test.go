package schur_test

import (
	"math"
	"slices"
	"testing"

	"corsage/api"
	"corsage/schur"
)

// ones returns n times the number 1.
func ones(n int) []int { return slices.Repeat([]int{1}, n) }

func sum(l []int) int {
	s := 0
	for _, n := range l {
		s += n
	}
	return s
}

func factorial(n int) int {
	f := 1
	for k := 2; k <= n; k++ {
		f *= k
	}
	return f
}

// contents returns all slices of exactly k numbers with the sum n.
func contents(n, k int) [][]int {
	if k == 0 {
		if n == 0 {
			return [][]int{nil}
		}
		return nil
	}
	var all [][]int
	for first := 0; first <= n; first++ {
		for _, rest := range contents(n-first, k-1) {
			all = append(all, append([]int{first}, rest...))
		}
	}
	return all
}

// shapesOf returns all shapes with n boxes, rising.
func shapesOf(n int) [][]int {
	var all [][]int
	for k := 0; k <= n; k++ {
		for _, l := range contents(n, k) {
			falls := slices.IsSortedFunc(l, func(a, b int) int { return b - a })
			if falls && !slices.Contains(l, 0) {
				all = append(all, l)
			}
		}
	}
	slices.SortFunc(all, slices.Compare)
	return all
}

// shapesUpTo returns all shapes with at most n boxes.
func shapesUpTo(n int) [][]int {
	var all [][]int
	for k := 0; k <= n; k++ {
		all = append(all, shapesOf(k)...)
	}
	return all
}

func conjugate(l []int) []int {
	var c []int
	for j := 0; len(l) > 0 && j < l[0]; j++ {
		k := 0
		for _, n := range l {
			if n > j {
				k++
			}
		}
		c = append(c, k)
	}
	return c
}

// holds reports whether all boxes of a are boxes of c.
func holds(c, a []int) bool {
	if len(a) > len(c) {
		return false
	}
	for i := range a {
		if a[i] > c[i] {
			return false
		}
	}
	return true
}

func inner(a []int, i int) int {
	if i < len(a) {
		return a[i]
	}
	return 0
}

// inOrder is the definition of a skew filling's order, box by box.
func inOrder(rows [][]int, a []int) bool {
	for i, row := range rows {
		for j, n := range row {
			if j > 0 && row[j-1] > n {
				return false
			}
			if i == 0 {
				continue
			}
			above := j + inner(a, i) - inner(a, i-1)
			if above >= 0 && rows[i-1][above] >= n {
				return false
			}
		}
	}
	return true
}

// skewFillings finds all skew fillings of c without a with the content m by trying all ways to place the numbers, in order.
func skewFillings(c, a, m []int) [][][]int {
	var all [][][]int
	left := slices.Clone(m)
	var put func(word []int)
	put = func(word []int) {
		if len(word) == sum(m) {
			if rows := cut(word, c, a); inOrder(rows, a) {
				all = append(all, rows)
			}
			return
		}
		for k := range left {
			if left[k] > 0 {
				left[k]--
				put(append(slices.Clone(word), k+1))
				left[k]++
			}
		}
	}
	put(nil)
	return all
}

// cut lays a word row by row into the boxes of c without a.
func cut(word, c, a []int) [][]int {
	rows := make([][]int, len(c))
	for i := range c {
		n := c[i] - inner(a, i)
		rows[i] = slices.Clone(word[:n])
		word = word[n:]
	}
	return rows
}

// contentOf returns how often each of the numbers 1 to 8 occurs.
func contentOf(rows [][]int) []int {
	m := make([]int, 8)
	for _, row := range rows {
		for _, n := range row {
			m[n-1]++
		}
	}
	return m
}

// fillingsOf returns the fillings of l with numbers up to k.
func fillingsOf(t *testing.T, l []int, k int) [][][]int {
	t.Helper()
	var all [][][]int
	for _, m := range contents(sum(l), k) {
		f, e := schur.Fillings(l, m)
		if e != api.OK {
			t.Fatal(l, m, e)
		}
		all = append(all, f...)
	}
	return all
}

func sameRows(a, b [][]int) bool { return slices.EqualFunc(a, b, slices.Equal[[]int]) }

func sameSkew(a, b schur.Skew) bool {
	return slices.Equal(a.Inner, b.Inner) && sameRows(a.Rows, b.Rows)
}

// notShapes are slices that are no shapes.
func notShapes() [][]int {
	return [][]int{{0}, {1, 0}, {-1}, {1, 2}, {3, 1, 2}, {9}, {8, 1}, {5, 4}, {3, 3, 3}, ones(9), ones(1000),
		{math.MaxInt}, {math.MinInt}, {math.MaxInt, math.MaxInt}, {4, math.MinInt}, {1 << 62, 1 << 62, 1 << 62, 1 << 62}}
}

// notContents are slices that are no contents.
func notContents() [][]int {
	return [][]int{{-1}, {2, -1}, {9}, {4, 5}, {0, 8, 1}, make([]int, 9), ones(9), {math.MaxInt, math.MaxInt, 2}, {math.MinInt}, {1 << 62, 1 << 62, 1 << 62, 1 << 62}}
}
