package schur_test

import (
	"math"
	"slices"
	"testing"

	"corsage/api"
	"corsage/schur"
)

func char(t *testing.T, l, m []int) int {
	t.Helper()
	n, e := schur.Char(l, m)
	if e != api.OK {
		t.Fatal(l, m, e)
	}
	return n
}

// permutations returns how many permutations have the cycle type m.
func permutations(m []int) int {
	same := 1
	for i, k := range m {
		same *= k
		again := 1
		for j := i - 1; j >= 0 && m[j] == k; j-- {
			again++
		}
		same *= again
	}
	return factorial(sum(m)) / same
}

// P1.6: the characters of 1, 3 and 4 boxes, and of 8 at a few places.
func TestCharExamples(t *testing.T) {
	for _, x := range []struct {
		l, m []int
		want int
	}{
		{nil, nil, 1}, {[]int{}, nil, 1}, {[]int{1}, []int{1}, 1},
		{[]int{3}, []int{3}, 1}, {[]int{3}, []int{2, 1}, 1}, {[]int{3}, ones(3), 1},
		{[]int{2, 1}, []int{3}, -1}, {[]int{2, 1}, []int{2, 1}, 0}, {[]int{2, 1}, ones(3), 2},
		{ones(3), []int{3}, 1}, {ones(3), []int{2, 1}, -1}, {ones(3), ones(3), 1},
		{[]int{3, 1}, []int{4}, -1}, {[]int{3, 1}, []int{3, 1}, 0}, {[]int{3, 1}, []int{2, 2}, -1}, {[]int{3, 1}, []int{2, 1, 1}, 1}, {[]int{3, 1}, ones(4), 3},
		{[]int{2, 2}, []int{4}, 0}, {[]int{2, 2}, []int{3, 1}, -1}, {[]int{2, 2}, []int{2, 2}, 2}, {[]int{2, 2}, []int{2, 1, 1}, 0}, {[]int{2, 2}, ones(4), 2},
		{[]int{2, 1, 1}, []int{4}, 1}, {[]int{2, 1, 1}, []int{2, 2}, -1}, {[]int{2, 1, 1}, []int{2, 1, 1}, -1},
		{[]int{8}, []int{5, 3}, 1}, {ones(8), []int{8}, -1}, {ones(8), []int{5, 3}, 1}, {[]int{5, 1, 1, 1}, []int{8}, -1}, {[]int{4, 4}, []int{8}, 0},
		{[]int{4, 4}, []int{4, 4}, 2}, {[]int{4, 4}, ones(8), 14}, {[]int{7, 1}, []int{2, 1, 1, 1, 1, 1, 1}, 5},
	} {
		if n := char(t, x.l, x.m); n != x.want {
			t.Error(x, n)
		}
	}
}

// P1.6
func TestCharErrors(t *testing.T) {
	for _, l := range notShapes() {
		for _, x := range [][2][]int{{l, l}, {l, {3}}, {{3}, l}, {nil, l}, {l, nil}} {
			if n, e := schur.Char(x[0], x[1]); n != 0 || e != api.ErrArg {
				t.Error(x, n, e)
			}
		}
	}
	for _, x := range [][2][]int{{{3}, {2}}, {{2}, {3}}, {nil, {1}}, {{1}, nil}, {{3}, {1, 2}}, {{2, 1}, {2, 1, 0}}, {{1}, {math.MaxInt}}} {
		if n, e := schur.Char(x[0], x[1]); n != 0 || e != api.ErrArg {
			t.Error(x, n, e)
		}
	}
}

// P1.6, by the lengths of hooks.
func TestStandardIsTheHookFormula(t *testing.T) {
	for _, l := range shapesUpTo(8) {
		c, product := conjugate(l), 1
		for i, n := range l {
			for j := range n {
				product *= n - j + c[j] - i - 1
			}
		}
		if n, e := schur.Standard(l); n != factorial(sum(l))/product || e != api.OK {
			t.Error(l, n, e)
		}
	}
}

// P1.12
func TestCharAtOnesIsStandard(t *testing.T) {
	for _, l := range shapesUpTo(8) {
		want, _ := schur.Standard(l)
		if n := char(t, l, ones(sum(l))); n != want {
			t.Error(l, n, want)
		}
	}
}

// P1.12
func TestCharsAreOrthogonal(t *testing.T) {
	for n := range 9 {
		all := shapesOf(n)
		for _, a := range all {
			for _, b := range all {
				total, want := 0, 0
				for _, m := range all {
					total += char(t, a, m) * char(t, b, m) * permutations(m)
				}
				if slices.Equal(a, b) {
					want = factorial(n)
				}
				if total != want {
					t.Error(a, b, total)
				}
			}
		}
	}
}

// P1.12
func TestCharOfConjugates(t *testing.T) {
	for n := range 9 {
		for _, l := range shapesOf(n) {
			for _, m := range shapesOf(n) {
				want := char(t, l, m)
				if (n-len(m))%2 == 1 {
					want = -want
				}
				if got := char(t, conjugate(l), m); got != want {
					t.Error(l, m, got, want)
				}
			}
		}
	}
}

// P1.6, P2: at a cycle type, the sum over all shapes of Kostka and the character counts how the cycles can be laid into rows as long as m says.
func TestCharsAndKostkaCountTheSame(t *testing.T) {
	for n := range 8 {
		for _, m := range shapesOf(n) {
			for _, cycles := range shapesOf(n) {
				total := 0
				for _, l := range shapesOf(n) {
					k, _ := schur.Kostka(l, m)
					total += k * char(t, l, cycles)
				}
				if want := layings(cycles, m); total != want {
					t.Error(m, cycles, total, want)
				}
			}
		}
	}
}

// layings returns in how many ways the cycles fill the rows exactly.
func layings(cycles, rows []int) int {
	if len(cycles) == 0 {
		return 1
	}
	ways := 0
	for i, n := range rows {
		if n >= cycles[0] {
			left := slices.Clone(rows)
			left[i] -= cycles[0]
			ways += layings(cycles[1:], left)
		}
	}
	return ways
}
