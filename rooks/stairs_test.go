package rooks_test

import (
	"math"
	"slices"
	"strconv"
	"strings"
	"testing"

	"corsage/api"
	"corsage/rooks"
)

// P5.4
func TestStair(t *testing.T) {
	for _, l := range allHeights() {
		if b, e := rooks.Stair(l); !slices.Equal(b, steps(l)) || e != api.OK {
			t.Error(l, b, e)
		}
	}
	for _, x := range []struct{ l, want []int }{{[]int{0}, []int{0}}, {[]int{1}, []int{1}}, {[]int{1, 2, 2}, []int{1, 3, 3}}, {[]int{0, 1, 2, 3, 6, 6}, []int{0, 1, 3, 7, 63, 63}}} {
		if b, e := rooks.Stair(x.l); !slices.Equal(b, x.want) || e != api.OK {
			t.Error(x, b, e)
		}
		ownMemory(t, x.l, func(l []int) []int {
			b, _ := rooks.Stair(l)
			return b
		})
	}
	refusesAll(t, notHeights(), func(l []int) (bool, api.Errno) {
		b, e := rooks.Stair(l)
		return len(b) == 0, e
	})
}

// heightsOf returns the heights of b if it is a stair once the rows with the least squares, and the columns with the most, come first.
func heightsOf(b []int) (heights []int, found bool) {
	n := len(b)
	squares := read(b)
	row, column := make([]int, n), make([]int, n)
	for _, s := range squares {
		row[s.i]++
		column[s.j]++
	}
	heights = slices.Clone(row)
	slices.Sort(heights)
	// place returns where each index comes if those with lesser counts come first.
	place := func(counts []int) []int {
		to := make([]int, n)
		for i := range n {
			for k := range n {
				if counts[k] < counts[i] || counts[k] == counts[i] && k < i {
					to[i]++
				}
			}
		}
		return to
	}
	for j := range column {
		column[j] = -column[j]
	}
	return heights, slices.Equal(ordered(b, place(row), place(column)), steps(heights))
}

// P5.4: all boards with up to 4 rows, samples with more, and all stairs in some orders.
func TestHeights(t *testing.T) {
	all := append(samples(), every(4)...)
	d := dice{seed: 54}
	for _, l := range allHeights() {
		b := steps(l)
		all = append(all, b, d.mixed(b), exchanged(b))
		// one square more or less
		near := d.mixed(b)
		near[d.below(len(b))] ^= 1 << d.below(len(b))
		all = append(all, near)
	}
	found, none := 0, 0
	for _, b := range all {
		want, is := heightsOf(b)
		kept := slices.Clone(b)
		l, e := rooks.Heights(b)
		if is {
			found++
			if !slices.Equal(l, want) || e != api.OK {
				t.Error(b, l, want, e)
			}
		} else {
			none++
			refused(t, len(l) == 0, e, api.ErrNone, b, l)
		}
		if !slices.Equal(b, kept) {
			t.Error(kept, b)
		}
	}
	if found < 1000 || none < 1000 {
		t.Error(found, none)
	}
}

// P5.4: up to 3 rows, of all orders of rows and columns one is a stair, or none is.
func TestHeightsOfAllOrders(t *testing.T) {
	for n := 1; n <= 3; n++ {
		for _, b := range every(n) {
			var want []int
			for _, rows := range orders(n) {
				for _, columns := range orders(n) {
					o := ordered(b, rows, columns)
					for _, l := range everyHeights(n) {
						if slices.Equal(o, steps(l)) {
							want = l
						}
					}
				}
			}
			l, e := rooks.Heights(b)
			if want == nil {
				refused(t, len(l) == 0, e, api.ErrNone, b, l)
			} else if !slices.Equal(l, want) || e != api.OK {
				t.Error(b, l, want, e)
			}
		}
	}
}

// P5.4
func TestHeightsOfSome(t *testing.T) {
	for _, x := range []struct{ b, want []int }{
		{[]int{0}, []int{0}},
		{[]int{1}, []int{1}},
		{[]int{6, 2, 6}, []int{1, 2, 2}},
		{[]int{2, 0}, []int{0, 1}},
		{[]int{32, 63, 33, 0, 32, 41}, []int{0, 1, 1, 2, 3, 6}},
		{[]int{63, 63, 63, 63, 63, 63}, []int{6, 6, 6, 6, 6, 6}},
	} {
		if l, e := rooks.Heights(x.b); !slices.Equal(l, x.want) || e != api.OK {
			t.Error(x, l, e)
		}
		ownMemory(t, x.b, func(b []int) []int {
			l, _ := rooks.Heights(b)
			return l
		})
	}
	for _, b := range [][]int{{1, 2}, {2, 1}, {1, 2, 0}, {1, 6, 7}, {3, 7, 5}, {3, 5, 0}, {0, 63, 1, 2, 63, 0}, {1, 1, 1, 1, 1, 2}} {
		l, e := rooks.Heights(b)
		refused(t, len(l) == 0, e, api.ErrNone, b)
	}
	refusesAll(t, notBoards(), func(b []int) (bool, api.Errno) {
		l, e := rooks.Heights(b)
		return len(l) == 0, e
	})
}

// key makes a slice comparable.
func key(l []int) string {
	var b strings.Builder
	for _, x := range l {
		b.WriteString(strconv.Itoa(x) + " ")
	}
	return b.String()
}

// steepOnes returns all slices of n numbers up to most, none less than the one before it and those above 0 all different.
func steepOnes(n, most int) [][]int {
	var all [][]int
	for set := range 1 << most {
		s := []int{}
		for x := range most {
			if set>>x&1 == 1 {
				s = append(s, x+1)
			}
		}
		if len(s) <= n {
			all = append(all, append(make([]int, n-len(s)), s...))
		}
	}
	return all
}

// P5.5: of all steep slices there is just one that has the same numbers.
func TestSteep(t *testing.T) {
	for n := 1; n <= 6; n++ {
		like := map[string][][]int{}
		for _, s := range steepOnes(n, 2*n) {
			like[key(below(s))] = append(like[key(below(s))], s)
		}
		for _, l := range everyHeights(n) {
			want := like[key(below(l))]
			kept := slices.Clone(l)
			s, e := rooks.Steep(l)
			if len(want) != 1 || !slices.Equal(s, want[0]) || e != api.OK || !slices.Equal(l, kept) {
				t.Error(kept, l, s, want, e)
			}
		}
	}
	for _, x := range []struct{ l, want []int }{
		{[]int{0}, []int{0}},
		{[]int{1}, []int{1}},
		{[]int{2, 2}, []int{1, 3}},
		{[]int{0, 0, 2}, []int{0, 0, 2}},
		{[]int{0, 2, 2}, []int{0, 1, 3}},
		{[]int{3, 3, 3}, []int{1, 3, 5}},
		{[]int{0, 1, 2, 3, 4, 5}, []int{0, 1, 2, 3, 4, 5}},
		{[]int{1, 1, 1, 1, 1, 1}, []int{0, 0, 0, 0, 0, 6}},
		{[]int{6, 6, 6, 6, 6, 6}, []int{1, 3, 5, 7, 9, 11}},
	} {
		if s, e := rooks.Steep(x.l); !slices.Equal(s, x.want) || e != api.OK {
			t.Error(x, s, e)
		}
		ownMemory(t, x.l, func(l []int) []int {
			s, _ := rooks.Steep(l)
			return s
		})
	}
	refusesAll(t, notHeights(), func(l []int) (bool, api.Errno) {
		s, e := rooks.Steep(l)
		return len(s) == 0, e
	})
}

// P5.7: the sum, with the rook numbers found by choosing squares.
func TestFactor(t *testing.T) {
	for _, l := range allHeights() {
		n := len(l)
		r := placed(n, read(steps(l)))
		for x := range 11 {
			sum := 0
			for k := range r {
				// x (x - 1) .. with n - k numbers is in how many ways n - k of x can be put in a row
				sum += r[k] * choices(x, n-k) * factorial(n-k)
			}
			kept := slices.Clone(l)
			if f, e := rooks.Factor(l, x); f != sum || e != api.OK || !slices.Equal(l, kept) {
				t.Error(kept, l, x, f, sum, e)
			}
		}
	}
	for _, x := range []struct {
		l       []int
		x, want int
	}{{[]int{1, 2, 2}, 2, 18}, {[]int{0}, 0, 0}, {[]int{0}, 10, 10}, {[]int{1}, 0, 1}, {[]int{6, 6, 6, 6, 6, 6}, 10, 5765760}, {[]int{0, 0, 0}, 2, 0}} {
		if f, e := rooks.Factor(x.l, x.x); f != x.want || e != api.OK {
			t.Error(x, f, e)
		}
	}
}

// P5.7: what are no heights, and numbers that are not from 0 to 10.
func TestFactorRefuses(t *testing.T) {
	for _, x := range append(strange(), 0, 1, 10) {
		refusesAll(t, notHeights(), func(l []int) (bool, api.Errno) {
			f, e := rooks.Factor(l, x)
			return f == 0, e
		})
	}
	for _, l := range [][]int{{0}, {1}, {1, 2, 2}, {6, 6, 6, 6, 6, 6}} {
		for _, x := range append(strange(), 12, -10, 1<<32+2, math.MaxInt-1) {
			f, e := rooks.Factor(l, x)
			refused(t, f == 0, e, api.ErrArg, l, x)
		}
	}
}

// P5.11: Factor is a product over the heights, and over the steep ones.
func TestFactorIsProduct(t *testing.T) {
	for _, l := range allHeights() {
		s, e := rooks.Steep(l)
		if len(s) != len(l) || e != api.OK {
			t.Fatal(l, s, e)
		}
		for x := range 11 {
			flat, steep := 1, 1
			for i := range l {
				flat *= x + l[i] - i
				steep *= x + s[i] - i
			}
			if f, e := rooks.Factor(l, x); f != flat || f != steep || e != api.OK {
				t.Error(l, s, x, f, flat, steep, e)
			}
		}
	}
}

// P5.11: stairs have the same rook numbers if and only if they have the same l[i] - i.
func TestStairsAlike(t *testing.T) {
	for n := 1; n <= 6; n++ {
		byRooks, byDifferences := map[string]string{}, map[string]string{}
		for _, l := range everyHeights(n) {
			b, e := rooks.Stair(l)
			r, f := rooks.Rooks(b)
			if len(r) != n+1 || e != api.OK || f != api.OK {
				t.Fatal(l, b, r, e, f)
			}
			k, m := key(r), key(below(l))
			if have, ok := byRooks[k]; ok && have != m {
				t.Error(l, r, have, m)
			}
			if have, ok := byDifferences[m]; ok && have != k {
				t.Error(l, r, have, k)
			}
			byRooks[k], byDifferences[m] = m, k
		}
	}
}
