package caps_test

import (
	"math"
	"slices"
	"testing"

	"corsage/api"
)

// power returns x to the power of k.
func power(x, k int) int {
	p := 1
	for range k {
		p *= x
	}
	return p
}

// digits returns the features of the card c of dimension d.
func digits(d, c int) [4]int {
	var f [4]int
	for i := range d {
		f[i] = c / power(3, i) % 3
	}
	return f
}

// areSet reports whether three cards of dimension d are a set, by the words of the document.
func areSet(d, a, b, c int) bool {
	if a == b || a == c || b == c {
		return false
	}
	f, g, h := digits(d, a), digits(d, b), digits(d, c)
	for i := range d {
		alike := f[i] == g[i] && g[i] == h[i]
		different := f[i] != g[i] && f[i] != h[i] && g[i] != h[i]
		if !alike && !different {
			return false
		}
	}
	return true
}

// setsIn returns how many sets the cards of l contain.
func setsIn(d int, l []int) int {
	count := 0
	for i, a := range l {
		for j, b := range l[:i] {
			for _, c := range l[:j] {
				if areSet(d, a, b, c) {
					count++
				}
			}
		}
	}
	return count
}

// haveDifferentSums reports whether residues have different sums, by trying all fours of them.
func haveDifferentSums(n int, l []int) bool {
	for _, a := range l {
		for _, b := range l {
			for _, c := range l {
				for _, d := range l {
					same := a == c && b == d || a == d && b == c
					if (a+b-c-d)%n == 0 && !same {
						return false
					}
				}
			}
		}
	}
	return true
}

// areFreeOfSums reports whether residues are free of sums, by trying all threes of them.
func areFreeOfSums(n int, l []int) bool {
	for _, a := range l {
		for _, b := range l {
			for _, c := range l {
				if (a+b-c)%n == 0 {
					return false
				}
			}
		}
	}
	return true
}

// haveNoProgression reports whether numbers up to n contain no progression of length 3, by trying all of these.
func haveNoProgression(n int, l []int) bool {
	for a := 1; a <= n; a++ {
		for b := 1; a+2*b <= n; b++ {
			if slices.Contains(l, a) && slices.Contains(l, a+b) && slices.Contains(l, a+2*b) {
				return false
			}
		}
	}
	return true
}

// isRuler reports whether l is a ruler.
func isRuler(l []int) bool {
	if l[0] != 0 {
		return false
	}
	var differences []int
	for i, b := range l {
		for _, a := range l[:i] {
			if b <= l[i-1] || slices.Contains(differences, b-a) {
				return false
			}
			differences = append(differences, b-a)
		}
	}
	return true
}

// colouredWithoutSums reports whether a colouring has no x, y and x + y of one colour.
func colouredWithoutSums(l []int) bool {
	for x := 1; x <= len(l); x++ {
		for y := x; x+y <= len(l); y++ {
			if l[x-1] == l[y-1] && l[y-1] == l[x+y-1] {
				return false
			}
		}
	}
	return true
}

// colouredWithoutSteps returns what reports whether a colouring has no progression of length k of one colour.
func colouredWithoutSteps(k int) func(l []int) bool {
	return func(l []int) bool {
		for a := 1; a <= len(l); a++ {
			for b := 1; a+(k-1)*b <= len(l); b++ {
				same := true
				for i := range k {
					same = same && l[a+i*b-1] == l[a-1]
				}
				if same {
					return false
				}
			}
		}
		return true
	}
}

// subsets returns all rising slices of the numbers from a to b, in any order.
func subsets(a, b int) [][]int {
	all := [][]int{nil}
	for x := a; x <= b; x++ {
		for _, l := range all[:len(all):len(all)] {
			all = append(all, append(slices.Clone(l), x))
		}
	}
	return all
}

// grown calls visit with all rising slices of the numbers from a to b that are good, in order, where every beginning of a good one is good.
func grown(a, b int, good func(l []int) bool, visit func(l []int)) {
	var grow func(l []int)
	grow = func(l []int) {
		visit(l)
		next := a
		if len(l) > 0 {
			next = l[len(l)-1] + 1
		}
		for x := next; x <= b; x++ {
			if more := append(slices.Clone(l), x); good(more) {
				grow(more)
			}
		}
	}
	grow(nil)
}

// most returns the first of the longest good slices of the numbers from a to b.
func most(a, b int, good func(l []int) bool) []int {
	var best []int
	grown(a, b, good, func(l []int) {
		if len(l) > len(best) {
			best = l
		}
	})
	return best
}

// words returns all slices of n numbers from 0 to k - 1, in order.
func words(n, k int) [][]int {
	var all [][]int
	for x := range power(k, n) {
		l := make([]int, n)
		for i := n - 1; i >= 0; i-- {
			l[i] = x % k
			x /= k
		}
		all = append(all, l)
	}
	return all
}

// firstColouring returns the first good colouring of 1 to n, where every beginning of a good one is good, or nil.
func firstColouring(n, colours int, good func(l []int) bool) []int {
	var grow func(l []int) []int
	grow = func(l []int) []int {
		if len(l) == n {
			return l
		}
		for c := range colours {
			if more := append(slices.Clone(l), c); good(more) {
				if found := grow(more); found != nil {
					return found
				}
			}
		}
		return nil
	}
	return grow(nil)
}

// dice gives the same numbers in every run.
type dice struct{ seed uint64 }

func (d *dice) below(n int) int {
	d.seed = d.seed*6364136223846793005 + 1442695040888963407
	return int(d.seed >> 33 % uint64(n))
}

// some returns a rising slice of numbers from a to b, each of them there with a chance of one in rare.
func (d *dice) some(a, b, rare int) []int {
	var l []int
	for x := a; x <= b; x++ {
		if d.below(rare) == 0 {
			l = append(l, x)
		}
	}
	return l
}

// samples returns rising slices of numbers from a to b: the empty one, all numbers, each one alone, and some others.
func samples(a, b int) [][]int {
	d := dice{seed: uint64(a + 100*b)}
	all := [][]int{nil, d.some(a, b, 1)}
	for x := a; x <= b; x++ {
		all = append(all, []int{x})
	}
	for _, rare := range []int{2, 3, 5, 8, 13, 20} {
		for range 12 {
			all = append(all, d.some(a, b, rare))
		}
	}
	return all
}

// with returns the rising slice of x and the numbers of l.
func with(l []int, x int) []int {
	more := append(slices.Clone(l), x)
	slices.Sort(more)
	return more
}

// strange are numbers that are no dimension, modulus or count, and in no slice.
func strange() []int {
	return []int{-1, -2, -3, -40, 81, 100, 1 << 16, 1 << 31, 1 << 32, 1<<32 + 1, 1<<32 + 2, math.MaxInt - 1, math.MaxInt, math.MinInt, math.MinInt + 1, math.MinInt + 2}
}

// notRising returns what is no rising slice of numbers from a to b, where b is at least a + 1.
func notRising(a, b int) [][]int {
	all := [][]int{{a, a}, {b, b}, {a + 1, a}, {b, a}, {a, b, b}, {a, b, a}, {a, a, b}, {a - 1}, {b + 1}, {a - 1, a}, {a, b + 1}, make([]int, 100000), slices.Repeat([]int{a}, 82)}
	for _, x := range strange() {
		all = append(all, []int{x}, []int{a, x}, []int{x, b}, []int{a, x, b})
	}
	long := make([]int, 100000)
	for i := range long {
		long[i] = a + i
	}
	return append(all, long)
}

// refused checks an error and that the other result is its zero value.
func refused(t *testing.T, zero bool, e, want api.Errno, about ...any) {
	t.Helper()
	if !zero || e != want {
		t.Error(about, zero, e, want)
	}
}

// refusesAll checks that a function refuses all these slices, and leaves them as they are.
func refusesAll(t *testing.T, slicesOf [][]int, call func(l []int) (zero bool, e api.Errno)) {
	t.Helper()
	for _, l := range slicesOf {
		kept := slices.Clone(l)
		zero, e := call(l)
		refused(t, zero, e, api.ErrArg, len(l), l[:min(len(l), 20)])
		if !slices.Equal(l, kept) {
			t.Error(len(l), "changed")
		}
	}
}

// untouched checks that a call leaves l as it is, also behind its end.
func untouched(t *testing.T, l []int, call func(l []int)) {
	t.Helper()
	const room = 20
	roomy := append(make([]int, 0, len(l)+room), l...)
	call(roomy)
	if !slices.Equal(roomy, l) || !slices.Equal(roomy[:len(l)+room][len(l):], make([]int, room)) {
		t.Error(l, roomy)
	}
}

// own checks that a call gives the same result again after its first one has been written over.
func own(t *testing.T, call func() []int) {
	t.Helper()
	got := call()
	kept := slices.Clone(got)
	for i := range got[:cap(got)] {
		got[:cap(got)][i] = -5
	}
	if again := call(); !slices.Equal(again, kept) {
		t.Error(again, kept)
	}
}

// What the other tests rely on is right.
func TestHelp(t *testing.T) {
	if n := len(subsets(3, 7)); n != 32 {
		t.Error(n)
	}
	if l := words(3, 2); len(l) != 8 || !slices.IsSortedFunc(l, slices.Compare[[]int]) {
		t.Error(l)
	}
	var all [][]int
	grown(1, 5, func([]int) bool { return true }, func(l []int) { all = append(all, l) })
	if len(all) != 32 || !slices.IsSortedFunc(all, slices.Compare[[]int]) {
		t.Error(all)
	}
	for _, l := range samples(1, 40) {
		if !slices.IsSorted(l) || len(slices.Compact(slices.Clone(l))) != len(l) {
			t.Error(l)
		}
	}
	for _, x := range []struct{ got, want bool }{
		{areSet(2, 0, 4, 8), true}, {areSet(2, 0, 1, 3), false}, {areSet(1, 1, 1, 1), false}, {areSet(4, 0, 40, 80), true},
		{haveDifferentSums(7, []int{0, 1, 3}), true}, {haveDifferentSums(6, []int{0, 1, 3}), false}, {haveDifferentSums(2, []int{0, 1}), false},
		{areFreeOfSums(6, []int{1, 3, 5}), true}, {areFreeOfSums(9, []int{0, 4}), false}, {areFreeOfSums(3, []int{1, 2}), false},
		{haveNoProgression(9, []int{1, 2, 4, 8, 9}), true}, {haveNoProgression(9, []int{1, 5, 9}), false},
		{isRuler([]int{0, 1, 4, 6}), true}, {isRuler([]int{0, 1, 2}), false}, {isRuler([]int{1, 2}), false}, {isRuler([]int{0, 0}), false}, {isRuler([]int{0, 2, 1}), false},
		{colouredWithoutSums([]int{0, 1, 1, 0}), true}, {colouredWithoutSums([]int{0, 0}), false},
		{colouredWithoutSteps(3)([]int{0, 0, 1}), true}, {colouredWithoutSteps(4)([]int{1, 0, 1, 0, 1, 0, 1}), false},
	} {
		if x.got != x.want {
			t.Error(x)
		}
	}
}
