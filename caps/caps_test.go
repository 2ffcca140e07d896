package caps_test

import (
	"math/bits"
	"slices"
	"testing"

	"corsage/api"
	"corsage/caps"
)

// twenty is a cap of dimension 4 with the most cards that there can be.
func twenty() []int {
	return []int{0, 6, 8, 9, 11, 17, 30, 33, 34, 38, 42, 46, 47, 50, 63, 69, 71, 72, 74, 80}
}

// cardSlices returns slices of cards of dimension d: all of them up to dimension 2.
func cardSlices(d int) [][]int {
	if d <= 2 {
		return subsets(0, power(3, d)-1)
	}
	all := append(samples(0, power(3, d)-1), []int{0, 1, 3, 4, 9, 10, 14, 17, 23})
	if d == 4 {
		all = append(all, twenty(), with(twenty(), 1), with(twenty(), 79))
	}
	return all
}

// grownCaps returns caps of dimension d to which no card can be added, grown by dice.
func grownCaps(t *testing.T, d int) [][]int {
	t.Helper()
	x := dice{seed: uint64(d)}
	var all [][]int
	for range 40 {
		var l []int
		free, e := caps.Free(d, l)
		for len(free) > 0 {
			l = with(l, free[x.below(len(free))])
			free, e = caps.Free(d, l)
		}
		if e != api.OK {
			t.Error(d, l, e)
		}
		all = append(all, l)
	}
	return all
}

// P8.1, P8.8: of all cards the one that makes a set with two.
func TestThird(t *testing.T) {
	for d := 1; d <= 4; d++ {
		n := power(3, d)
		for a := range n {
			for b := range n {
				c, e := caps.Third(d, a, b)
				if a == b {
					refused(t, c == 0, e, api.ErrArg, d, a, b)
					continue
				}
				for x := range n {
					if (x == c) != areSet(d, a, b, x) || e != api.OK {
						t.Error(d, a, b, c, x, e)
					}
				}
				if x, e := caps.Third(d, b, a); x != c || e != api.OK {
					t.Error(d, a, b, c, x, e)
				}
				if x, e := caps.Third(d, a, c); x != b || e != api.OK {
					t.Error(d, a, b, c, x, e)
				}
			}
		}
	}
	for _, x := range [][4]int{{2, 0, 4, 8}, {2, 0, 1, 2}, {1, 2, 0, 1}, {3, 0, 5, 7}, {4, 80, 40, 0}} {
		if c, e := caps.Third(x[0], x[1], x[2]); c != x[3] || e != api.OK {
			t.Error(x, c, e)
		}
	}
}

// P8.1
func TestThirdRefuses(t *testing.T) {
	for d := 1; d <= 4; d++ {
		for _, x := range append(strange(), power(3, d), power(3, d)+1) {
			for _, y := range []int{0, 1, power(3, d) - 1, x, -1} {
				c, e := caps.Third(d, x, y)
				refused(t, c == 0, e, api.ErrArg, d, x, y)
				c, e = caps.Third(d, y, x)
				refused(t, c == 0, e, api.ErrArg, d, y, x)
			}
		}
	}
	for _, d := range append(strange(), 0, 5, 6, 40) {
		c, e := caps.Third(d, 0, 1)
		refused(t, c == 0, e, api.ErrArg, d)
	}
}

// P8.1, P8.2: against a count of all threes; all cards have as many sets as lines.
func TestSetsAndCap(t *testing.T) {
	for d := 1; d <= 4; d++ {
		for _, l := range cardSlices(d) {
			want := setsIn(d, l)
			if n, e := caps.Sets(d, l); n != want || e != api.OK {
				t.Error(d, l, n, want, e)
			}
			if ok, e := caps.Cap(d, l); ok != (want == 0) || e != api.OK {
				t.Error(d, l, ok, want, e)
			}
			untouched(t, l, func(l []int) {
				caps.Sets(d, l)
				caps.Cap(d, l)
			})
		}
		var all []int
		for c := range power(3, d) {
			all = append(all, c)
		}
		if n, e := caps.Sets(d, all); n != len(all)*(len(all)-1)/6 || e != api.OK {
			t.Error(d, n, e)
		}
		if n, e := caps.Sets(d, []int{}); n != 0 || e != api.OK {
			t.Error(d, n, e)
		}
		if ok, e := caps.Cap(d, []int{}); !ok || e != api.OK {
			t.Error(d, ok, e)
		}
	}
}

// P8.2: against trying all cards; what is no cap is refused.
func TestFree(t *testing.T) {
	for d := 1; d <= 4; d++ {
		for _, l := range slices.Concat(cardSlices(d), grownCaps(t, d)) {
			got, e := caps.Free(d, l)
			if setsIn(d, l) > 0 {
				refused(t, len(got) == 0, e, api.ErrState, d, l)
				continue
			}
			var want []int
			for c := range power(3, d) {
				if !slices.Contains(l, c) && setsIn(d, with(l, c)) == 0 {
					want = append(want, c)
				}
			}
			if !slices.Equal(got, want) || e != api.OK {
				t.Error(d, l, got, want, e)
			}
			untouched(t, l, func(l []int) { caps.Free(d, l) })
			own(t, func() []int {
				got, _ := caps.Free(d, l)
				return got
			})
		}
	}
	if l, e := caps.Free(2, []int{0, 1}); !slices.Equal(l, []int{3, 4, 5, 6, 7, 8}) || e != api.OK {
		t.Error(l, e)
	}
	if l, e := caps.Free(4, twenty()); len(l) != 0 || e != api.OK {
		t.Error(l, e)
	}
}

// P8.1, P8.2: what is no dimension or no slice of cards, also where it would be no cap.
func TestCardsRefuse(t *testing.T) {
	ask := func(d int) func(l []int) (bool, api.Errno) {
		return func(l []int) (bool, api.Errno) {
			n, e := caps.Sets(d, l)
			ok, f := caps.Cap(d, l)
			free, g := caps.Free(d, l)
			if e != f || f != g {
				t.Error(d, e, f, g)
			}
			return n == 0 && !ok && len(free) == 0, e
		}
	}
	for d := 1; d <= 4; d++ {
		refusesAll(t, append(notRising(0, power(3, d)-1), []int{0, 1, 2, 81}, []int{0, 1, 2, 2}, []int{0, 2, 1}, []int{-1, 0, 1, 2}), ask(d))
	}
	for _, d := range append(strange(), 0, 5, 6, 40) {
		refusesAll(t, [][]int{nil, {}, {0}, {0, 1}, {0, 1, 2}, make([]int, 100)}, ask(d))
	}
}

// everyCap calls visit with each cap of dimension 3, as a set, in order.
func everyCap(visit func(set int)) {
	var third [27][27]int
	for a := range 27 {
		for b := range 27 {
			for c := range 27 {
				if areSet(3, a, b, c) {
					third[a][b] = 1 << c
				}
			}
		}
	}
	var grow func(set, free int)
	grow = func(set, free int) {
		visit(set)
		for rest := free; rest != 0; rest &= rest - 1 {
			c := bits.TrailingZeros(uint(rest))
			left := rest & (rest - 1)
			for s := set; s != 0; s &= s - 1 {
				left &^= third[bits.TrailingZeros(uint(s))][c]
			}
			grow(set|1<<c, left)
		}
	}
	grow(0, 1<<27-1)
}

// P8.2: the first of the longest of all caps.
func TestGreatest(t *testing.T) {
	for d := 1; d <= 2; d++ {
		want := most(0, power(3, d)-1, func(l []int) bool { return setsIn(d, l) == 0 })
		if l, e := caps.Greatest(d); !slices.Equal(l, want) || e != api.OK {
			t.Error(d, l, want, e)
		}
	}
	best, threes := 0, 0
	everyCap(func(set int) {
		if bits.OnesCount(uint(set)) == 3 {
			threes++
		}
		if bits.OnesCount(uint(set)) > bits.OnesCount(uint(best)) {
			best = set
		}
	})
	if threes != 27*26*25/6-117 {
		t.Error(threes)
	}
	var want []int
	for c := range 27 {
		if best>>c&1 == 1 {
			want = append(want, c)
		}
	}
	if l, e := caps.Greatest(3); !slices.Equal(l, want) || e != api.OK {
		t.Error(l, want, e)
	}
	for d, want := range [][]int{{0, 1}, {0, 1, 3, 4}} {
		if l, e := caps.Greatest(d + 1); !slices.Equal(l, want) || e != api.OK {
			t.Error(d, l, e)
		}
	}
	for _, d := range append(strange(), 0, 4, 5, 9) {
		l, e := caps.Greatest(d)
		refused(t, len(l) == 0, e, api.ErrArg, d)
	}
	own(t, func() []int {
		l, _ := caps.Greatest(3)
		return l
	})
}

// P8.8: a set stays one with a card added to all three, digit by digit.
func TestSetsMoved(t *testing.T) {
	add := func(d, a, b int) int {
		sum := 0
		f, g := digits(d, a), digits(d, b)
		for i := range d {
			sum += (f[i] + g[i]) % 3 * power(3, i)
		}
		return sum
	}
	for d := 1; d <= 4; d++ {
		for a := range power(3, d) {
			for b := range a {
				c, e := caps.Third(d, a, b)
				if e != api.OK {
					t.Fatal(d, a, b, e)
				}
				for m := 0; m < power(3, d); m += 1 + a%7 {
					l := []int{add(d, a, m), add(d, b, m), add(d, c, m)}
					slices.Sort(l)
					if n, e := caps.Sets(d, l); n != 1 || e != api.OK {
						t.Error(d, a, b, c, m, l, n, e)
					}
				}
			}
		}
	}
}

// P8.9: how many cards caps have.
func TestCapSizes(t *testing.T) {
	bound := []int{1, 2, 4, 9, 20}
	for d := 1; d <= 3; d++ {
		l, e := caps.Greatest(d)
		if len(l) != bound[d] || e != api.OK {
			t.Error(d, l, e)
		}
		if ok, e := caps.Cap(d, l); !ok || e != api.OK {
			t.Error(d, l, ok, e)
		}
	}
	for d := 1; d <= 4; d++ {
		for _, l := range grownCaps(t, d) {
			if len(l) > bound[d] || d > 1 && len(l) > 3*bound[d-1] {
				t.Error(d, l)
			}
		}
	}
	if ok, e := caps.Cap(4, twenty()); !ok || e != api.OK || len(twenty()) != 20 {
		t.Error(ok, e)
	}
}
