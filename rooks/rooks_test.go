package rooks_test

import (
	"slices"
	"testing"

	"corsage/api"
	"corsage/rooks"
)

// without returns the board of n - 1 rows that the squares of b outside row i and column j make.
func without(b []int, i, j int) []int {
	var kept []square
	for _, s := range read(b) {
		if s.i == i || s.j == j {
			continue
		}
		if s.i > i {
			s.i--
		}
		if s.j > j {
			s.j--
		}
		kept = append(kept, s)
	}
	return write(len(b)-1, kept)
}

// P5.3
func TestWithout(t *testing.T) {
	for _, b := range samples() {
		n := len(b)
		for i := range n {
			for j := range n {
				got, e := rooks.Without(b, i, j)
				if n == 1 {
					refused(t, len(got) == 0, e, api.ErrArg, b)
				} else if want := without(b, i, j); !slices.Equal(got, want) || e != api.OK {
					t.Error(b, i, j, got, want, e)
				}
			}
		}
	}
	for _, x := range []struct {
		b    []int
		i, j int
		want []int
	}{{[]int{1, 2, 4}, 0, 1, []int{0, 2}}, {[]int{3, 2}, 1, 0, []int{1}}, {[]int{5, 7, 6}, 1, 2, []int{1, 2}}, {[]int{63, 0, 32, 1, 2, 33}, 5, 5, []int{31, 0, 0, 1, 2}}} {
		if b, e := rooks.Without(x.b, x.i, x.j); !slices.Equal(b, x.want) || e != api.OK {
			t.Error(x, b, e)
		}
		ownMemory(t, x.b, func(b []int) []int {
			l, _ := rooks.Without(b, x.i, x.j)
			return l
		})
	}
}

// P5.3: what is no board, one row, and what is no row or column.
func TestWithoutRefuses(t *testing.T) {
	refusesAll(t, append(notBoards(), []int{0}, []int{1}), func(b []int) (bool, api.Errno) {
		l, e := rooks.Without(b, 0, 0)
		return len(l) == 0, e
	})
	refusesAll(t, notBoards(), func(b []int) (bool, api.Errno) {
		l, e := rooks.Without(b, 1, 1)
		return len(l) == 0, e
	})
	for n := 1; n <= 6; n++ {
		b := slices.Repeat([]int{1}, n)
		for _, x := range append(strange(), n, n+1) {
			for _, y := range append(strange(), 0, n-1, n) {
				l, e := rooks.Without(b, x, y)
				refused(t, len(l) == 0, e, api.ErrArg, b, x, y)
				l, e = rooks.Without(b, y, x)
				refused(t, len(l) == 0, e, api.ErrArg, b, y, x)
			}
		}
	}
}

// P5.3: each square is on just one of a board and its Other; the Other of that is the board again.
func TestOther(t *testing.T) {
	for _, b := range samples() {
		squares := read(b)
		var rest []square
		for i := range b {
			for j := range b {
				if !slices.Contains(squares, square{i, j}) {
					rest = append(rest, square{i, j})
				}
			}
		}
		got, e := rooks.Other(b)
		if !slices.Equal(got, write(len(b), rest)) || e != api.OK {
			t.Error(b, got, e)
		}
		if back, e := rooks.Other(got); !slices.Equal(back, b) || e != api.OK {
			t.Error(b, got, back, e)
		}
	}
	for _, x := range []struct{ b, want []int }{{[]int{0}, []int{1}}, {[]int{1, 2, 4}, []int{6, 5, 3}}, {[]int{63, 0, 1, 32, 62, 31}, []int{0, 63, 62, 31, 1, 32}}} {
		if b, e := rooks.Other(x.b); !slices.Equal(b, x.want) || e != api.OK {
			t.Error(x, b, e)
		}
		ownMemory(t, x.b, func(b []int) []int {
			l, _ := rooks.Other(b)
			return l
		})
	}
	refusesAll(t, notBoards(), func(b []int) (bool, api.Errno) {
		l, e := rooks.Other(b)
		return len(l) == 0, e
	})
}
