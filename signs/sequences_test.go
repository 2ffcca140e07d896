package signs_test

import (
	"math"
	"slices"
	"testing"

	"corsage/api"
	"corsage/signs"
)

// lengths are those that sequences have.
func lengths() []int { return []int{1, 3, 5} }

// notLengths are those that sequences do not have.
func notLengths() []int {
	return []int{-5, -3, -1, 0, 2, 4, 6, 7, 9, 15, 16, 63, 64, 65, 1<<32 + 1, math.MaxInt, math.MinInt}
}

// refusesSequences checks that a function of four sequences refuses what are none, and all numbers of signs that are not allowed.
func refusesSequences(t *testing.T, call func(m int, s [4]int) (zero bool, e api.Errno)) {
	t.Helper()
	for _, m := range lengths() {
		for x := range 1 << m {
			if slices.Contains(sets(m), x) {
				continue
			}
			for k := range 4 {
				var s [4]int
				s[k] = x
				zero, e := call(m, s)
				refused(t, zero, e, api.ErrArg, m, s)
			}
		}
		for _, x := range []int{-1, -2, -1 << m, 1 << m, 1<<m + 1, 1 << 32, math.MaxInt, math.MinInt} {
			for k := range 4 {
				var s [4]int
				s[k] = x
				zero, e := call(m, s)
				refused(t, zero, e, api.ErrArg, m, s)
			}
		}
	}
	for _, m := range notLengths() {
		for _, s := range [][4]int{{}, {0, 1, 1, 1}, {1, 1, 1, 1}, {-1, 0, 0, 0}} {
			zero, e := call(m, s)
			refused(t, zero, e, api.ErrArg, m, s)
		}
	}
}

// P4.7: the squares are those of the circulants as matrices.
func TestGood(t *testing.T) {
	for _, m := range lengths() {
		some := 0
		for _, s := range fours(m) {
			ok, e := signs.Good(m, s)
			if ok != areGood(m, s) || e != api.OK {
				t.Error(m, s, ok, e)
			}
			if ok {
				some++
			}
		}
		if some == 0 || m > 1 && some == len(fours(m)) {
			t.Error(m, some)
		}
	}
	refusesSequences(t, func(m int, s [4]int) (bool, api.Errno) {
		ok, e := signs.Good(m, s)
		return !ok, e
	})
}

// P4.7: the array is that of any four sequences, good or not; P4.14: that of good ones is balanced.
func TestArray(t *testing.T) {
	for _, m := range lengths() {
		for _, s := range fours(m) {
			h, e := signs.Array(m, s)
			want := array(m, s)
			if areGood(m, s) && !want.isBalanced() {
				t.Error(m, s)
			}
			if m == 5 {
				refused(t, len(h) == 0, e, api.ErrSize, m, s)
				continue
			}
			if !slices.Equal(h, want.write()) || e != api.OK {
				t.Error(m, s, h, want.write(), e)
			}
			if ok, e := signs.Balanced(h); ok != want.isBalanced() || e != api.OK {
				t.Error(m, s, h, ok, e)
			}
		}
	}
	if h, e := signs.Array(1, [4]int{0, 0, 0, 0}); !slices.Equal(h, []int{0, 5, 9, 3}) || e != api.OK {
		t.Error(h, e)
	}
	refusesSequences(t, func(m int, s [4]int) (bool, api.Errno) {
		h, e := signs.Array(m, s)
		return len(h) == 0, e
	})
}

// P4.14: the squares of the sums of the signs of good sequences sum to 4 m: so these sums are, but for their signs and order, in Four of m.
func TestSumsOfGood(t *testing.T) {
	for _, m := range lengths() {
		list, e := signs.Four(m)
		if e != api.OK {
			t.Error(m, e)
		}
		for _, s := range fours(m) {
			if ok, _ := signs.Good(m, s); !ok {
				continue
			}
			squares := 0
			var sums [4]int
			for k, x := range s {
				sum := 0
				for _, sign := range circulant(m, x)[0] {
					sum += sign
				}
				sums[k] = max(sum, -sum)
				squares += sum * sum
			}
			slices.Sort(sums[:])
			if squares != 4*m || !slices.Contains(list, sums) {
				t.Error(m, s, sums, list)
			}
		}
	}
}

// P4.7
func TestFind(t *testing.T) {
	for _, m := range lengths() {
		all := fours(m)
		first := all[slices.IndexFunc(all, func(s [4]int) bool { return areGood(m, s) })]
		s, e := signs.Find(m)
		if s != first || e != api.OK {
			t.Error(m, s, first, e)
		}
		if ok, e := signs.Good(m, s); !ok || e != api.OK {
			t.Error(m, s, ok, e)
		}
	}
	if s, e := signs.Find(1); s != [4]int{} || e != api.OK {
		t.Error(s, e)
	}
	if s, e := signs.Find(3); s != [4]int{0, 1, 1, 1} || e != api.OK {
		t.Error(s, e)
	}
	for _, m := range notLengths() {
		s, e := signs.Find(m)
		refused(t, s == [4]int{}, e, api.ErrArg, m)
	}
}

// P4.8: there are none if n is even, as odd squares are 1 modulo 8.
func TestFour(t *testing.T) {
	for n := 1; n <= 100; n++ {
		var want [][4]int
		for x := range 10 * 10 * 10 * 10 {
			s := [4]int{x/1000*2 + 1, x/100%10*2 + 1, x/10%10*2 + 1, x%10*2 + 1}
			if slices.IsSorted(s[:]) && s[0]*s[0]+s[1]*s[1]+s[2]*s[2]+s[3]*s[3] == 4*n {
				want = append(want, s)
			}
		}
		l, e := signs.Four(n)
		if !slices.Equal(l, want) || (len(l) == 0) != (n%2 == 0) || e != api.OK {
			t.Error(n, l, want, e)
		}
	}
	if l, e := signs.Four(3); !slices.Equal(l, [][4]int{{1, 1, 1, 3}}) || e != api.OK {
		t.Error(l, e)
	}
	if l, e := signs.Four(7); !slices.Equal(l, [][4]int{{1, 1, 1, 5}, {1, 3, 3, 3}}) || e != api.OK {
		t.Error(l, e)
	}
	for _, n := range []int{-100, -1, 0, 101, 102, 103, 1<<32 + 3, 1<<62 + 1, math.MaxInt, math.MinInt} {
		l, e := signs.Four(n)
		refused(t, len(l) == 0, e, api.ErrArg, n)
	}
}
