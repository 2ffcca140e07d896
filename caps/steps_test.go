package caps_test

import (
	"slices"
	"testing"

	"corsage/api"
	"corsage/caps"
)

// numberSlices returns rising slices of numbers from 1 to n: all of them for small n.
func numberSlices(n int) [][]int {
	if n <= 10 {
		return subsets(1, n)
	}
	all := samples(1, n)
	if n >= 24 {
		all = append(all, []int{1, 2, 4, 5, 10, 11, 13, 14}, []int{n - 13, n - 12, n - 10, n - 9, n - 4, n - 3, n - 1, n})
	}
	return all
}

// P8.5, P8.11: against trying all progressions; the same with each number taken from n + 1.
func TestSteps(t *testing.T) {
	for n := 1; n <= 40; n++ {
		for _, l := range append(numberSlices(n), []int{}) {
			want := haveNoProgression(n, l)
			if ok, e := caps.Steps(n, l); ok != want || e != api.OK {
				t.Error(n, l, ok, e)
			}
			var back []int
			for _, x := range l {
				back = append(back, n+1-x)
			}
			slices.Reverse(back)
			if ok, e := caps.Steps(n, back); ok != want || e != api.OK {
				t.Error(n, l, back, ok, e)
			}
			untouched(t, l, func(l []int) { caps.Steps(n, l) })
		}
	}
	for _, x := range []struct {
		n    int
		l    []int
		want bool
	}{{1, []int{1}, true}, {3, []int{1, 2, 3}, false}, {9, []int{1, 2, 4, 8, 9}, true}, {40, []int{2, 21, 40}, false}, {40, []int{1, 21, 40}, true}, {40, []int{38, 39, 40}, false}, {14, []int{1, 2, 4, 5, 10, 11, 13, 14}, true}} {
		if ok, e := caps.Steps(x.n, x.l); ok != x.want || e != api.OK {
			t.Error(x, ok, e)
		}
	}
}

// P8.5: what is no count or no rising slice of numbers from 1 on.
func TestStepsRefuses(t *testing.T) {
	ask := func(n int) func(l []int) (bool, api.Errno) {
		return func(l []int) (bool, api.Errno) {
			ok, e := caps.Steps(n, l)
			return !ok, e
		}
	}
	for n := 2; n <= 40; n++ {
		refusesAll(t, notRising(1, n), ask(n))
	}
	refusesAll(t, [][]int{{0}, {2}, {1, 1}, {1, 2}, {0, 1}}, ask(1))
	for _, n := range append(strange(), 0, 41, 42) {
		refusesAll(t, [][]int{nil, {}, {0}, {1}, {1, 2}, {1, 2, 3}, make([]int, 100)}, ask(n))
	}
}

// P8.5, P8.11: the most numbers of all slices; from each n to the next at most one more.
func TestLong(t *testing.T) {
	before := 0
	for n := 1; n <= 24; n++ {
		want := len(most(1, n, func(l []int) bool { return haveNoProgression(n, l) }))
		got, e := caps.Long(n)
		if got != want || got < before || got > before+1 || e != api.OK {
			t.Error(n, got, want, before, e)
		}
		before = got
	}
	for n, want := range map[int]int{1: 1, 2: 2, 3: 2, 4: 3, 5: 4, 8: 4, 9: 5, 11: 6, 13: 7, 14: 8, 19: 8, 20: 9, 23: 9, 24: 10} {
		if got, e := caps.Long(n); got != want || e != api.OK {
			t.Error(n, got, e)
		}
	}
	for _, n := range append(strange(), 0, 25, 26, 40, 41) {
		got, e := caps.Long(n)
		refused(t, got == 0, e, api.ErrArg, n)
	}
}
