package signs_test

import (
	"math"
	"slices"
	"testing"

	"corsage/api"
	"corsage/signs"
)

// P4.4
func TestSum(t *testing.T) {
	for _, h := range slices.Concat(samples(16), every(4)) {
		kept := slices.Clone(h)
		if n, e := signs.Sum(h); n != read(h).sum() || e != api.OK || !slices.Equal(h, kept) {
			t.Error(kept, h, n, e)
		}
	}
	if n, e := signs.Sum([]int{1}); n != -1 || e != api.OK {
		t.Error(n, e)
	}
	if n, e := signs.Sum(slices.Repeat([]int{1<<16 - 1}, 16)); n != -256 || e != api.OK {
		t.Error(n, e)
	}
	refusesOthers(t, 1, 16, func(h []int) (bool, api.Errno) {
		n, e := signs.Sum(h)
		return n == 0, e
	})
}

// best returns the greatest sum of all turnings of m: for every set of rows, each column is turned if its sum is less than 0.
func best(m numbers) int {
	most := math.MinInt
	for rows := range 1 << len(m) {
		total := 0
		for j := range m {
			column := 0
			for i := range m {
				if rows&(1<<i) != 0 {
					column -= m[i][j]
				} else {
					column += m[i][j]
				}
			}
			total += max(column, -column)
		}
		most = max(most, total)
	}
	return most
}

// P4.4
func TestBest(t *testing.T) {
	for _, h := range samples(12) {
		kept := slices.Clone(h)
		if n, e := signs.Best(h); n != best(read(h)) || e != api.OK || !slices.Equal(h, kept) {
			t.Error(kept, h, n, best(read(h)), e)
		}
	}
	refusesOthers(t, 1, 12, func(h []int) (bool, api.Errno) {
		n, e := signs.Best(h)
		return n == 0, e
	})
}

// P4.4: the greatest sum is that of some turning of rows and columns, and of none more; all of them are tried.
func TestBestOfAllTurnings(t *testing.T) {
	for _, h := range slices.Concat(every(1), every(2), every(3), [][]int{{0, 10, 12, 6}, {1, 2, 4, 8}, {3, 9, 14, 5}, {15, 15, 15, 15}, {7, 11, 13, 14}}) {
		most := math.MinInt
		for rows := range 1 << len(h) {
			for columns := range 1 << len(h) {
				m := read(h)
				for i := range h {
					if rows&(1<<i) != 0 {
						m.turnRow(i)
					}
					if columns&(1<<i) != 0 {
						m.turnColumn(i)
					}
				}
				most = max(most, m.sum())
			}
		}
		if n, e := signs.Best(h); n != most || e != api.OK {
			t.Error(h, n, most, e)
		}
	}
}

// P4.11: Best is at least Sum, not changed by turning, and for balanced matrices at most n times the square root of n; the greatest sums of these are known.
func TestBestIsKept(t *testing.T) {
	known := map[int]int{1: 1, 2: 2, 4: 8, 8: 20, 12: 36}
	d := dice{seed: 6}
	for i, h := range samples(12) {
		if len(h) == 4 && i%10 != 0 {
			continue
		}
		n, e := signs.Best(h)
		sum, f := signs.Sum(h)
		if n < sum || e != api.OK || f != api.OK {
			t.Error(h, n, sum, e, f)
		}
		m := read(h)
		for range 3 {
			m.turnRow(d.below(len(h)))
			m.turnColumn(d.below(len(h)))
			if same, e := signs.Best(m.write()); same != n || e != api.OK {
				t.Error(h, m.write(), n, same, e)
			}
		}
		if m.isBalanced() && (n*n > len(h)*len(h)*len(h) || n != known[len(h)]) {
			t.Error(h, n)
		}
	}
}

// P4.5, P4.10
func TestDet(t *testing.T) {
	for _, h := range slices.Concat(samples(12), every(4)) {
		m := read(h)
		kept := slices.Clone(h)
		n := len(h)
		d, e := signs.Det(h)
		if d != m.det() || e != api.OK || !slices.Equal(h, kept) {
			t.Error(kept, h, d, m.det(), e)
		}
		bound := 1
		for range n {
			bound *= n
		}
		if d*d > bound || (d*d == bound) != m.isBalanced() || d%(1<<(n-1)) != 0 {
			t.Error(h, d)
		}
	}
	for _, x := range []struct {
		h    []int
		want int
	}{{[]int{0}, 1}, {[]int{1}, -1}, {[]int{0, 2}, -2}, {[]int{2, 0}, 2}, {[]int{3, 3}, 0}, {[]int{0, 10, 12, 6}, 16}} {
		if d, e := signs.Det(x.h); d != x.want || e != api.OK {
			t.Error(x.h, d, e)
		}
	}
	refusesOthers(t, 1, 12, func(h []int) (bool, api.Errno) {
		d, e := signs.Det(h)
		return d == 0, e
	})
}

// P4.5: exchanging two rows changes the sign of Det, also where steps meet entries that are 0.
func TestDetOfExchangedRows(t *testing.T) {
	d := dice{seed: 7}
	for n := 2; n <= 12; n++ {
		for range 10 {
			h := d.matrix(n)
			x, e := signs.Det(h)
			i := d.below(n - 1)
			h[i], h[n-1] = h[n-1], h[i]
			if y, f := signs.Det(h); y != -x || e != api.OK || f != api.OK {
				t.Error(h, x, y, e, f)
			}
		}
	}
}

// P4.5: up to 4 rows, of all matrices; with 5, of all whose first row and column have +1 alone, as turning changes no more than the sign.
func TestMost(t *testing.T) {
	for n, want := range []int{0, 1, 2, 4, 16, 48} {
		if n == 0 {
			continue
		}
		most := 0
		if n < 5 {
			for _, h := range every(n) {
				most = max(most, read(h).det())
			}
		} else {
			for x := range 1 << 16 {
				h := []int{0, x & 15 << 1, x >> 4 & 15 << 1, x >> 8 & 15 << 1, x >> 12 << 1}
				d := read(h).det()
				most = max(most, d, -d)
			}
		}
		if x, e := signs.Most(n); x != want || x != most || e != api.OK {
			t.Error(n, x, most, e)
		}
	}
	for _, n := range []int{-5, -1, 0, 6, 7, 8, 12, 16, 1<<32 + 2, math.MaxInt, math.MinInt} {
		x, e := signs.Most(n)
		refused(t, x == 0, e, api.ErrArg, n)
	}
}
