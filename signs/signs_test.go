package signs_test

import (
	"slices"
	"testing"

	"corsage/api"
	"corsage/signs"
)

// P4.1: Balanced is told by all pairs of rows; with one row, it is; P4.9: it is told by the columns as well.
func TestBalanced(t *testing.T) {
	count := map[int]int{}
	for _, h := range slices.Concat(samples(16), every(4)) {
		m := read(h)
		kept := slices.Clone(h)
		ok, e := signs.Balanced(h)
		if e != api.OK || ok != m.isBalanced() || !slices.Equal(h, kept) {
			t.Error(kept, h, ok, e)
		}
		columns, e := signs.Balanced(m.flip().write())
		if e != api.OK || columns != ok {
			t.Error(h, columns, ok, e)
		}
		if n := len(h); ok {
			count[n]++
			if n > 2 && n%4 != 0 {
				t.Error(h)
			}
		}
	}
	for _, n := range []int{1, 2, 4, 8, 12, 16} {
		if count[n] == 0 {
			t.Error(n)
		}
	}
	refusesOthers(t, 1, 16, func(h []int) (bool, api.Errno) {
		ok, e := signs.Balanced(h)
		return !ok, e
	})
}

// P4.1: there is no half of an odd number of columns: rows that all agree in one less, or one more, are not balanced.
func TestBalancedOdd(t *testing.T) {
	var seven []int // any two of these agree in 3 columns
	for _, row := range sylvester(8)[1:] {
		seven = append(seven, row>>1)
	}
	for _, h := range [][]int{{0, 1, 2}, {1, 2, 4}, {1, 2, 4, 8, 16}, {30, 29, 27, 23, 15}, seven} {
		if ok, e := signs.Balanced(h); ok || e != api.OK {
			t.Error(h, ok, e)
		}
	}
}

// P4.1, P4.9: half of the columns is meant for pairs of rows, not for neighbours or the first row alone.
func TestBalancedByEveryPair(t *testing.T) {
	for _, h := range balancedOnes() {
		for i := range h {
			for k := range h {
				if i == k {
					continue
				}
				for _, row := range []int{h[k], h[k] ^ (1<<len(h) - 1)} {
					twice := slices.Clone(h)
					twice[i] = row
					if ok, e := signs.Balanced(twice); ok || e != api.OK {
						t.Error(twice, ok, e)
					}
				}
			}
		}
	}
}

// P4.1: columns are turned after row 0, then rows after column 0.
func TestNormal(t *testing.T) {
	for _, h := range slices.Concat(samples(16), every(4)) {
		m := read(h)
		for j, sign := range slices.Clone(m[0]) {
			if sign == -1 {
				m.turnColumn(j)
			}
		}
		for i := range m {
			if m[i][0] == -1 {
				m.turnRow(i)
			}
		}
		got, e := signs.Normal(h)
		if e != api.OK || !slices.Equal(got, m.write()) {
			t.Error(h, got, m.write(), e)
		}
		if again, e := signs.Normal(got); e != api.OK || !slices.Equal(again, got) {
			t.Error(h, got, again, e)
		}
	}
	// 1 turns column 0: 0 1 2 comes; then row 1 is turned
	if h, e := signs.Normal([]int{1, 0, 3}); !slices.Equal(h, []int{0, 6, 2}) || e != api.OK {
		t.Error(h, e)
	}
	if h, e := signs.Normal([]int{1}); !slices.Equal(h, []int{0}) || e != api.OK {
		t.Error(h, e)
	}
	for _, h := range [][]int{{0}, {1, 3}, {5, 2, 7}, sylvester(4), sylvester(16)} {
		ownMemory(t, h, func(h []int) []int {
			n, _ := signs.Normal(h)
			return n
		})
	}
	refusesOthers(t, 1, 16, func(h []int) (bool, api.Errno) {
		n, e := signs.Normal(h)
		return len(n) == 0, e
	})
}

// P4.9: Normal, and every turning, of a balanced matrix is balanced; and Normal is the same for all that come from one by turning.
func TestTurnings(t *testing.T) {
	for _, h := range samples(16) {
		ok, _ := signs.Balanced(h)
		normal, _ := signs.Normal(h)
		if same, e := signs.Balanced(normal); same != ok || e != api.OK {
			t.Error(h, normal, ok, same, e)
		}
		for i := range h {
			m := read(h)
			m.turnRow(i)
			m.turnColumn((i + 1) % len(h))
			turned := m.write()
			if same, e := signs.Balanced(turned); same != ok || e != api.OK {
				t.Error(h, turned, ok, same, e)
			}
			if n, e := signs.Normal(turned); !slices.Equal(n, normal) || e != api.OK {
				t.Error(h, turned, n, normal, e)
			}
		}
	}
}
