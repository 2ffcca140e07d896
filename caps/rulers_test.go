package caps_test

import (
	"slices"
	"testing"

	"corsage/api"
	"corsage/caps"
)

// rulers are some with 5 to 10 numbers.
func rulers() [][]int {
	return [][]int{{0, 1, 4, 9, 11}, {0, 1, 4, 10, 12, 17}, {0, 1, 4, 10, 18, 23, 25}, {0, 1, 4, 9, 15, 22, 32, 34}, {0, 1, 5, 12, 25, 27, 35, 41, 44}, {0, 1, 6, 10, 23, 26, 34, 41, 53, 55}, {0, 5, 28, 38, 41, 49, 50, 60}}
}

// lists returns slices that may be rulers: all of up to 4 numbers below 7, some of up to 10 below 61, and some that almost are rulers.
func lists() [][]int {
	var all [][]int
	for n := 1; n <= 4; n++ {
		all = append(all, words(n, 7)...)
	}
	d := dice{seed: 3}
	for range 300 {
		var l []int
		for range d.below(7) {
			l = with(l, 1+d.below(60))
		}
		all = append(all, append([]int{0}, l...))
	}
	for _, l := range rulers() {
		all = append(all, l)
		for i := range l {
			for _, x := range []int{0, l[i] - 1, l[i] + 1, l[0], l[len(l)-1], 60} {
				near := slices.Clone(l)
				near[i] = min(max(x, 0), 60)
				all = append(all, near)
			}
			all = append(all, slices.Delete(slices.Clone(l), i, i+1))
		}
	}
	return all
}

// P8.7
func TestRuler(t *testing.T) {
	good := 0
	for _, l := range lists() {
		want := isRuler(l)
		if want {
			good++
		}
		if ok, e := caps.Ruler(l); ok != want || e != api.OK {
			t.Error(l, ok, e)
		}
		untouched(t, l, func(l []int) { caps.Ruler(l) })
	}
	if good < 200 {
		t.Error(good)
	}
	for _, x := range []struct {
		l    []int
		want bool
	}{
		{[]int{0}, true}, {[]int{1}, false}, {[]int{60}, false}, {[]int{0, 60}, true}, {[]int{0, 0}, false}, {[]int{0, 1, 3}, true}, {[]int{0, 3, 1}, false}, {[]int{0, 1, 2}, false}, {[]int{1, 2, 4}, false}, {[]int{3, 1, 0}, false},
		{[]int{0, 1, 4, 6}, true}, {[]int{0, 1, 4, 5}, false}, {[]int{0, 1, 1, 4}, false}, {[]int{0, 30, 60}, false}, {[]int{0, 1, 6, 10, 23, 26, 34, 41, 53, 55}, true}, {make([]int, 10), false},
	} {
		if ok, e := caps.Ruler(x.l); ok != x.want || e != api.OK {
			t.Error(x, ok, e)
		}
	}
}

// P8.7: too few or too many numbers, or one that is not from 0 to 60, also where it is no ruler.
func TestRulerRefuses(t *testing.T) {
	all := [][]int{nil, {}, make([]int, 11), {0, 1, 2, 3, 4, 5, 6, 7, 8, 9, 10}, {0, 1, 4, 9, 15, 22, 32, 34, 50, 55, 60}, make([]int, 100000)}
	for _, x := range append(strange(), 61, 62) {
		all = append(all, []int{x}, []int{0, x}, []int{x, 0}, []int{0, x, 1}, []int{3, 3, x}, []int{0, 1, 6, 10, 23, 26, 34, 41, 53, x})
	}
	refusesAll(t, all, func(l []int) (bool, api.Errno) {
		ok, e := caps.Ruler(l)
		return !ok, e
	})
}

// P8.7, P8.13: the first of the shortest of all rulers.
func TestShort(t *testing.T) {
	best := make([][]int, 8)
	grown(0, 25, isRuler, func(l []int) {
		k := len(l)
		if k > 0 && k < 8 && (best[k] == nil || l[k-1] < best[k][k-1]) {
			best[k] = l
		}
	})
	for k, length := range []int{0, 0, 1, 3, 6, 11, 17, 25} {
		if k == 0 {
			continue
		}
		l, e := caps.Short(k)
		if !slices.Equal(l, best[k]) || e != api.OK || len(l) != k || l[k-1] != length {
			t.Error(k, l, best[k], e)
		}
		if ok, e := caps.Ruler(l); !ok || e != api.OK {
			t.Error(k, l, ok, e)
		}
	}
	if l, e := caps.Short(4); !slices.Equal(l, []int{0, 1, 4, 6}) || e != api.OK {
		t.Error(l, e)
	}
	if l, e := caps.Short(7); !slices.Equal(l, []int{0, 1, 4, 10, 18, 23, 25}) || e != api.OK {
		t.Error(l, e)
	}
	for _, k := range append(strange(), 0, 8, 9, 10) {
		l, e := caps.Short(k)
		refused(t, len(l) == 0, e, api.ErrArg, k)
	}
	own(t, func() []int {
		l, _ := caps.Short(6)
		return l
	})
}

// P8.13: how long rulers are at least, and their sums.
func TestRulersAsResidues(t *testing.T) {
	tried := 0
	for _, l := range lists() {
		ok, e := caps.Ruler(l)
		if e != api.OK {
			t.Error(l, e)
		}
		if !ok {
			continue
		}
		k, length := len(l), l[len(l)-1]
		if length < k*(k-1)/2 {
			t.Error(l)
		}
		for n := max(2, 2*length+1); n <= 40; n++ {
			tried++
			if ok, e := caps.Sums(n, l); !ok || e != api.OK {
				t.Error(n, l, ok, e)
			}
		}
	}
	if tried < 1000 {
		t.Error(tried)
	}
}
