package caps_test

import (
	"slices"
	"testing"

	"corsage/api"
	"corsage/caps"
)

// residueSlices returns slices of residues modulo n: all of them for small n.
func residueSlices(n int) [][]int {
	if n <= 10 {
		return subsets(0, n-1)
	}
	return append(samples(0, n-1), samples(1, n-1)...)
}

// P8.3, P8.4: against trying all fours and threes.
func TestSumsAndApart(t *testing.T) {
	for n := 2; n <= 40; n++ {
		for _, l := range append(residueSlices(n), []int{}) {
			want := haveDifferentSums(n, l)
			if ok, e := caps.Sums(n, l); ok != want || e != api.OK {
				t.Error(n, l, ok, e)
			}
			want = areFreeOfSums(n, l)
			if ok, e := caps.Apart(n, l); ok != want || e != api.OK {
				t.Error(n, l, ok, e)
			}
			untouched(t, l, func(l []int) {
				caps.Sums(n, l)
				caps.Apart(n, l)
			})
		}
	}
	for _, x := range []struct {
		n           int
		l           []int
		sums, apart bool
	}{
		{2, []int{0, 1}, false, false}, {2, []int{1}, true, true}, {2, []int{0}, true, false}, {6, []int{0, 1, 3}, false, false}, {7, []int{0, 1, 3}, true, false},
		{6, []int{1, 3, 5}, false, true}, {9, []int{0, 4}, true, false}, {3, []int{1, 2}, true, false}, {4, []int{1, 3}, false, true}, {5, []int{1, 4}, true, true},
		{31, []int{1, 5, 11, 24, 25, 27}, true, false}, {40, []int{0, 20}, false, false}, {40, []int{19, 39}, false, true}, {40, []int{39}, true, true},
	} {
		sums, e := caps.Sums(x.n, x.l)
		apart, f := caps.Apart(x.n, x.l)
		if sums != x.sums || apart != x.apart || e != api.OK || f != api.OK {
			t.Error(x, sums, apart, e, f)
		}
	}
}

// P8.3, P8.4: what is no modulus or no slice of residues.
func TestResiduesRefuse(t *testing.T) {
	ask := func(n int) func(l []int) (bool, api.Errno) {
		return func(l []int) (bool, api.Errno) {
			sums, e := caps.Sums(n, l)
			apart, f := caps.Apart(n, l)
			if e != f {
				t.Error(n, e, f)
			}
			return !sums && !apart, e
		}
	}
	for n := 2; n <= 40; n++ {
		refusesAll(t, notRising(0, n-1), ask(n))
	}
	for _, n := range append(strange(), 0, 1, 41, 42) {
		refusesAll(t, [][]int{nil, {}, {0}, {1}, {0, 1}, {0, 0}, make([]int, 100)}, ask(n))
	}
}

// P8.3, P8.4: the first of the longest of all slices.
func TestMostAndWide(t *testing.T) {
	for n := 2; n <= 25; n++ {
		want := most(0, n-1, func(l []int) bool { return haveDifferentSums(n, l) })
		if l, e := caps.Most(n); !slices.Equal(l, want) || e != api.OK {
			t.Error(n, l, want, e)
		}
		want = most(0, n-1, func(l []int) bool { return areFreeOfSums(n, l) })
		if l, e := caps.Wide(n); !slices.Equal(l, want) || e != api.OK {
			t.Error(n, l, want, e)
		}
	}
	for _, x := range []struct {
		n          int
		most, wide []int
	}{{2, []int{0}, []int{1}}, {7, []int{0, 1, 3}, []int{1, 3}}, {6, []int{0, 1}, []int{1, 3, 5}}, {13, []int{0, 1, 3, 9}, []int{1, 3, 5, 12}}, {21, []int{0, 1, 4, 14, 16}, []int{1, 3, 5, 7, 16, 18, 20}}, {25, []int{0, 1, 3, 7, 12}, []int{1, 4, 6, 9, 11, 14, 16, 19, 21, 24}}} {
		m, e := caps.Most(x.n)
		w, f := caps.Wide(x.n)
		if !slices.Equal(m, x.most) || !slices.Equal(w, x.wide) || e != api.OK || f != api.OK {
			t.Error(x, m, w, e, f)
		}
	}
	for _, n := range append(strange(), 0, 1, 26, 27, 40, 41) {
		l, e := caps.Most(n)
		refused(t, len(l) == 0, e, api.ErrArg, n)
		l, e = caps.Wide(n)
		refused(t, len(l) == 0, e, api.ErrArg, n)
	}
	own(t, func() []int {
		l, _ := caps.Most(21)
		return l
	})
	own(t, func() []int {
		l, _ := caps.Wide(21)
		return l
	})
}

// P8.10: how many residues there can be.
func TestResidueCounts(t *testing.T) {
	for n := 2; n <= 40; n++ {
		for _, l := range residueSlices(n) {
			if ok, e := caps.Sums(n, l); ok && len(l)*(len(l)-1) > n-1 || e != api.OK {
				t.Error(n, l, e)
			}
		}
	}
	for n := 2; n <= 25; n++ {
		m, e := caps.Most(n)
		if ok, f := caps.Sums(n, m); !ok || len(m)*(len(m)-1) > n-1 || e != api.OK || f != api.OK {
			t.Error(n, m, ok, e, f)
		}
		w, e := caps.Wide(n)
		if ok, f := caps.Apart(n, w); !ok || n%2 == 0 && 2*len(w) != n || 2*len(w) > n || e != api.OK || f != api.OK {
			t.Error(n, w, ok, e, f)
		}
	}
}
