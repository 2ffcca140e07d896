package signs_test

import (
	"math/bits"
	"slices"
	"testing"

	"corsage/api"
	"corsage/signs"
)

// unbalanced returns matrices with at least the given number of rows that are not balanced.
func unbalanced(least int) [][]int {
	return slices.DeleteFunc(samples(16), func(h []int) bool { return len(h) < least || read(h).isBalanced() })
}

// P4.6
func TestDesign(t *testing.T) {
	for _, h := range balancedOnes() {
		if len(h) < 4 {
			continue
		}
		m := read(h)
		var want []int
		for _, row := range m[1:] {
			// of the normal form, the entry is the product of this one, and of those before it in its row and above it in its column
			set := 0
			for j := 1; j < len(h); j++ {
				if row[j]*row[0]*m[0][j]*m[0][0] == 1 {
					set |= 1 << (j - 1)
				}
			}
			want = append(want, set)
		}
		if l, e := signs.Design(h); !slices.Equal(l, want) || e != api.OK {
			t.Error(h, l, want, e)
		}
		ownMemory(t, h, func(h []int) []int {
			l, _ := signs.Design(h)
			return l
		})
	}
	if l, e := signs.Design([]int{0, 10, 12, 6}); !slices.Equal(l, []int{2, 1, 4}) || e != api.OK {
		t.Error(l, e)
	}
	for _, h := range unbalanced(4) {
		l, e := signs.Design(h)
		refused(t, len(l) == 0, e, api.ErrState, h)
	}
	refusesOthers(t, 4, 16, func(h []int) (bool, api.Errno) {
		l, e := signs.Design(h)
		return len(l) == 0, e
	})
}

// P4.12
func TestDesignCounts(t *testing.T) {
	for _, h := range balancedOnes() {
		if len(h) < 4 {
			continue
		}
		part := len(h) / 4
		l, e := signs.Design(h)
		if len(l) != len(h)-1 || e != api.OK {
			t.Error(h, l, e)
		}
		for i, a := range l {
			if a < 0 || a >= 1<<(len(h)-1) || bits.OnesCount(uint(a)) != 2*part-1 {
				t.Error(h, l)
			}
			for _, b := range l[:i] {
				if bits.OnesCount(uint(a&b)) != part-1 {
					t.Error(h, l)
				}
			}
		}
		for i := range len(h) - 1 {
			for j := range i {
				together := 0
				for _, a := range l {
					together += a >> i & 1 * (a >> j & 1)
				}
				if together != part-1 {
					t.Error(h, l, i, j)
				}
			}
		}
	}
}

// P4.6, P4.13
func TestWords(t *testing.T) {
	for _, h := range balancedOnes() {
		n := len(h)
		var want []int
		for x := range 1 << n {
			if slices.Contains(h, x) || slices.Contains(h, 1<<n-1-x) {
				want = append(want, x)
			}
		}
		l, e := signs.Words(h)
		if !slices.Equal(l, want) || len(l) != 2*n || e != api.OK {
			t.Error(h, l, want, e)
		}
		for i, a := range l {
			for _, b := range l[:i] {
				if differ := bits.OnesCount(uint(a ^ b)); 2*differ != n && differ != n {
					t.Error(h, a, b)
				}
			}
		}
		ownMemory(t, h, func(h []int) []int {
			l, _ := signs.Words(h)
			return l
		})
	}
	for _, x := range []struct{ h, want []int }{{[]int{0}, []int{0, 1}}, {[]int{1}, []int{0, 1}}, {[]int{0, 2}, []int{0, 1, 2, 3}}, {[]int{0, 10, 12, 6}, []int{0, 3, 5, 6, 9, 10, 12, 15}}} {
		if l, e := signs.Words(x.h); !slices.Equal(l, x.want) || e != api.OK {
			t.Error(x.h, l, e)
		}
	}
	for _, h := range unbalanced(1) {
		l, e := signs.Words(h)
		refused(t, len(l) == 0, e, api.ErrState, h)
	}
	refusesOthers(t, 1, 16, func(h []int) (bool, api.Errno) {
		l, e := signs.Words(h)
		return len(l) == 0, e
	})
}
