package signs_test

import (
	"math"
	"slices"
	"testing"

	"corsage/api"
	"corsage/signs"
)

// P4.2, P4.9
func TestDouble(t *testing.T) {
	for k := range 5 {
		h, e := signs.Double(k)
		if !slices.Equal(h, sylvester(1<<k)) || !read(h).isBalanced() || e != api.OK {
			t.Error(k, h, e)
		}
		if ok, e := signs.Balanced(h); !ok || e != api.OK {
			t.Error(k, h, ok, e)
		}
		clear(h)
		if again, e := signs.Double(k); !slices.Equal(again, sylvester(1<<k)) || e != api.OK {
			t.Error(k, again, e)
		}
	}
	if h, e := signs.Double(1); !slices.Equal(h, []int{0, 2}) || e != api.OK {
		t.Error(h, e)
	}
	if h, e := signs.Double(2); !slices.Equal(h, []int{0, 10, 12, 6}) || e != api.OK {
		t.Error(h, e)
	}
	for _, k := range []int{-1, -2, 5, 6, 16, 63, 64, 1 << 32, 1<<32 + 1, math.MaxInt, math.MinInt} {
		h, e := signs.Double(k)
		refused(t, len(h) == 0, e, api.ErrArg, k)
	}
}

// factors returns matrices of each number of rows.
func factors() [][]int {
	all := slices.Concat(every(1), every(2), [][]int{{4, 1, 6}, {7, 2, 3}, {0, 0, 0}}, balancedOnes())
	d := dice{seed: 5}
	for n := 3; n <= 16; n++ {
		all = append(all, d.matrix(n), d.matrix(n))
	}
	return all
}

// P4.2, P4.9
func TestTimes(t *testing.T) {
	for _, a := range factors() {
		for _, b := range factors() {
			keptA, keptB := slices.Clone(a), slices.Clone(b)
			h, e := signs.Times(a, b)
			if !slices.Equal(a, keptA) || !slices.Equal(b, keptB) {
				t.Error(a, keptA, b, keptB)
			}
			n := len(b)
			if len(a)*n > 16 {
				refused(t, len(h) == 0, e, api.ErrSize, a, b)
				continue
			}
			want := make(numbers, len(a)*n)
			for i, x := range read(a) {
				for r, y := range read(b) {
					for j := range a {
						for s := range b {
							want[i*n+r] = append(want[i*n+r], x[j]*y[s])
						}
					}
				}
			}
			if !slices.Equal(h, want.write()) || e != api.OK {
				t.Error(a, b, h, want.write(), e)
			}
			if read(a).isBalanced() && read(b).isBalanced() {
				if ok, e := signs.Balanced(h); !ok || e != api.OK {
					t.Error(a, b, h, ok, e)
				}
			}
		}
	}
	one := []int{0}
	ownMemory(t, sylvester(4), func(h []int) []int {
		p, _ := signs.Times(h, one)
		return p
	})
	ownMemory(t, sylvester(4), func(h []int) []int {
		p, _ := signs.Times(one, h)
		return p
	})
	ownMemory(t, sylvester(4), func(h []int) []int {
		p, _ := signs.Times(h, h)
		return p
	})
}

// P4.2: what is no matrix precedes a product that is too large.
func TestTimesRefuses(t *testing.T) {
	for _, other := range []int{1, 2, 4, 16} {
		b := make([]int, other)
		refusesOthers(t, 1, 16, func(h []int) (bool, api.Errno) {
			p, e := signs.Times(h, b)
			return len(p) == 0, e
		})
		refusesOthers(t, 1, 16, func(h []int) (bool, api.Errno) {
			p, e := signs.Times(b, h)
			return len(p) == 0, e
		})
	}
	for _, rows := range [][2]int{{1, 17}, {17, 1}, {2, 9}, {9, 2}, {4, 5}, {5, 4}, {16, 16}, {2, 16}, {3, 6}} {
		want := api.ErrSize
		if max(rows[0], rows[1]) > 16 {
			want = api.ErrArg
		}
		p, e := signs.Times(make([]int, rows[0]), make([]int, rows[1]))
		refused(t, len(p) == 0, e, want, rows)
	}
}

// P4.3, P4.9
func TestSquares(t *testing.T) {
	for p, squares := range map[int][]int{3: {1}, 7: {1, 2, 4}, 11: {1, 3, 4, 5, 9}} {
		want := paley(p, squares...)
		h, e := signs.Squares(p)
		if !slices.Equal(h, want) || e != api.OK {
			t.Error(p, h, want, e)
		}
		if ok, e := signs.Balanced(h); !ok || e != api.OK {
			t.Error(p, h, ok, e)
		}
		clear(h)
		if again, e := signs.Squares(p); !slices.Equal(again, want) || e != api.OK {
			t.Error(p, again, e)
		}
	}
	if h, e := signs.Squares(3); !slices.Equal(h, []int{0, 9, 3, 5}) || e != api.OK {
		t.Error(h, e)
	}
	for _, p := range []int{-11, -7, -3, -1, 0, 1, 2, 4, 5, 6, 8, 9, 10, 12, 13, 15, 17, 19, 23, 1<<32 + 3, math.MaxInt, math.MinInt} {
		h, e := signs.Squares(p)
		refused(t, len(h) == 0, e, api.ErrArg, p)
	}
}
