package rooks_test

import (
	"math"
	"slices"
	"testing"

	"corsage/api"
)

// square is a row and a column.
type square struct{ i, j int }

// read returns the squares of the board b.
func read(b []int) []square {
	var all []square
	for i, row := range b {
		for j := range b {
			if row&(1<<j) != 0 {
				all = append(all, square{i, j})
			}
		}
	}
	return all
}

// write returns the board with n rows and these squares.
func write(n int, squares []square) []int {
	b := make([]int, n)
	for _, s := range squares {
		b[s.i] |= 1 << s.j
	}
	return b
}

// placed returns, for each k from 0 to n, in how many ways k of the squares can be chosen such that no two share a row or a column.
func placed(n int, squares []square) []int {
	ways := make([]int, n+1)
	var chosen []square
	var choose func(rest []square)
	choose = func(rest []square) {
		ways[len(chosen)]++
		for x, s := range rest {
			if slices.ContainsFunc(chosen, func(o square) bool { return o.i == s.i || o.j == s.j }) {
				continue
			}
			chosen = append(chosen, s)
			choose(rest[x+1:])
			chosen = chosen[:len(chosen)-1]
		}
	}
	choose(squares)
	return ways
}

// orders returns all permutations of n, rising: of all slices of n numbers below n, those in which no two are the same.
func orders(n int) [][]int {
	var all [][]int
	for x := range power(n, n) {
		p := make([]int, n)
		seen := 0
		for i := n - 1; i >= 0; i-- {
			p[i] = x % n
			x /= n
			seen |= 1 << p[i]
		}
		if seen == 1<<n-1 {
			all = append(all, p)
		}
	}
	return all
}

// allOrders returns the permutations of each n from 0 to 6.
func allOrders() [7][][]int {
	var all [7][][]int
	for n := range all {
		all[n] = orders(n)
	}
	return all
}

func power(x, k int) int {
	p := 1
	for range k {
		p *= x
	}
	return p
}

func factorial(n int) int {
	f := 1
	for i := 2; i <= n; i++ {
		f *= i
	}
	return f
}

// choices returns in how many ways k of m can be chosen.
func choices(m, k int) int {
	if k < 0 || k > m {
		return 0
	}
	return factorial(m) / factorial(k) / factorial(m-k)
}

// hit returns how many squares of b the permutation p hits.
func hit(b, p []int) int {
	k := 0
	for _, s := range read(b) {
		if p[s.i] == s.j {
			k++
		}
	}
	return k
}

// exchanged returns b with rows and columns exchanged with each other.
func exchanged(b []int) []int {
	squares := read(b)
	for x, s := range squares {
		squares[x] = square{s.j, s.i}
	}
	return write(len(b), squares)
}

// ordered returns b with row i in the place rows[i], and column j in the place columns[j].
func ordered(b, rows, columns []int) []int {
	squares := read(b)
	for x, s := range squares {
		squares[x] = square{rows[s.i], columns[s.j]}
	}
	return write(len(b), squares)
}

// every returns all boards with n rows.
func every(n int) [][]int {
	var all [][]int
	for x := range 1 << (n * n) {
		b := make([]int, n)
		for i := range b {
			b[i] = x >> (i * n) & (1<<n - 1)
		}
		all = append(all, b)
	}
	return all
}

// everyHeights returns all heights with n numbers.
func everyHeights(n int) [][]int {
	var all [][]int
	var add func(l []int)
	add = func(l []int) {
		if len(l) == n {
			all = append(all, l)
			return
		}
		least := 0
		if len(l) > 0 {
			least = l[len(l)-1]
		}
		for h := least; h <= n; h++ {
			add(append(slices.Clone(l), h))
		}
	}
	add(nil)
	return all
}

// allHeights returns all heights with 1 to 6 numbers.
func allHeights() [][]int {
	var all [][]int
	for n := 1; n <= 6; n++ {
		all = append(all, everyHeights(n)...)
	}
	return all
}

// steps returns the stair of the heights l.
func steps(l []int) []int {
	var squares []square
	for i, h := range l {
		for j := range h {
			squares = append(squares, square{i, j})
		}
	}
	return write(len(l), squares)
}

// below returns the numbers l[i] - i, rising.
func below(l []int) []int {
	var all []int
	for i, h := range l {
		all = append(all, h-i)
	}
	slices.Sort(all)
	return all
}

// dice gives the same numbers in every run.
type dice struct{ seed uint64 }

func (d *dice) below(n int) int {
	d.seed = d.seed*6364136223846793005 + 1442695040888963407
	return int(d.seed >> 33 % uint64(n))
}

// order returns a permutation of n.
func (d *dice) order(n int) []int {
	p := make([]int, n)
	for i := range p {
		p[i] = i
		k := d.below(i + 1)
		p[i], p[k] = p[k], p[i]
	}
	return p
}

// board returns a board with n rows, on which a square is with the odds part of 4.
func (d *dice) board(n, part int) []int {
	b := make([]int, n)
	for i := range b {
		for j := range n {
			if d.below(4) < part {
				b[i] |= 1 << j
			}
		}
	}
	return b
}

// mixed returns b with its rows, and its columns, in another order.
func (d *dice) mixed(b []int) []int { return ordered(b, d.order(len(b)), d.order(len(b))) }

// blocked returns a board with n rows on which r rows and c columns have all their squares in common.
func (d *dice) blocked(n, r, c int) []int {
	b := d.board(n, 1)
	for i := range r {
		b[i] |= 1<<c - 1
	}
	return d.mixed(b)
}

// samples returns all boards with up to 3 rows, every 41st one with 4, and of 4 to 6 rows the empty one, the full one, some with few, with half and with most squares, some with and some almost with a barrier, and stairs in another order.
func samples() [][]int {
	all := slices.Concat(every(1), every(2), every(3))
	for x, b := range every(4) {
		if x%41 == 0 {
			all = append(all, b)
		}
	}
	d := dice{seed: 5}
	for n := 4; n <= 6; n++ {
		all = append(all, make([]int, n), slices.Repeat([]int{1<<n - 1}, n))
		for range 15 {
			all = append(all, d.board(n, 1), d.board(n, 2), d.board(n, 3))
		}
		for r := 1; r <= n; r++ {
			all = append(all, d.blocked(n, r, n+1-r), d.blocked(n, r, n-r))
		}
		for range 10 {
			l := make([]int, n)
			for i := range l {
				l[i] = d.below(n + 1)
			}
			slices.Sort(l)
			all = append(all, d.mixed(steps(l)))
		}
	}
	return all
}

// notBoards are slices that are no boards.
func notBoards() [][]int {
	all := [][]int{nil, {}, make([]int, 7), make([]int, 8), make([]int, 100000), slices.Repeat([]int{127}, 7), {1, 2, 4, 8, 16, 32, 64}, {2}, {3}, {1, 4}, {4, 1, 1 << 20}}
	for n := 1; n <= 6; n++ {
		for _, row := range []int{-1, 1 << n, 1<<n + 1, -1 << n, 1 << 32, math.MaxInt, math.MinInt} {
			first, last := make([]int, n), slices.Repeat([]int{1<<n - 1}, n)
			first[0], last[n-1] = row, row
			all = append(all, first, last)
		}
	}
	return all
}

// notHeights are slices that are no heights.
func notHeights() [][]int {
	all := [][]int{nil, {}, make([]int, 7), make([]int, 8), make([]int, 100000), slices.Repeat([]int{6}, 7), slices.Repeat([]int{7}, 7), {1, 0}, {2, 1}, {0, 1, 0}, {1, 2, 1}, {3, 2, 3}, {0, 3, 2}, {6, 5, 4, 3, 2, 1}, {0, 1, 2, 3, 5, 4}}
	for n := 1; n <= 6; n++ {
		for _, h := range []int{-1, -n, math.MinInt} {
			l := make([]int, n)
			l[0] = h
			all = append(all, l, slices.Repeat([]int{h}, n))
		}
		for _, h := range []int{n + 1, 7, 1 << n, 1 << 32, math.MaxInt} {
			l := make([]int, n)
			l[n-1] = max(h, n+1)
			all = append(all, l, slices.Repeat([]int{max(h, n+1)}, n))
		}
	}
	return all
}

// strange are numbers that are no index, size or value anywhere.
func strange() []int { return []int{-1, -2, 11, 64, 1 << 32, math.MaxInt, math.MinInt} }

// refused checks an error and that the other result is its zero value.
func refused(t *testing.T, zero bool, e, want api.Errno, about ...any) {
	t.Helper()
	if !zero || e != want {
		t.Error(about, zero, e, want)
	}
}

// refusesAll checks that a function refuses all these slices, and leaves them as they are.
func refusesAll(t *testing.T, slicesOf [][]int, call func(l []int) (zero bool, e api.Errno)) {
	t.Helper()
	for _, l := range slicesOf {
		kept := slices.Clone(l)
		zero, e := call(l)
		refused(t, zero, e, api.ErrArg, len(l), l[:min(len(l), 20)])
		if !slices.Equal(l, kept) {
			t.Error(len(l), "changed")
		}
	}
}

// ownMemory checks that a function leaves its argument as it is, also behind its end, and that its result shares no memory with it.
func ownMemory(t *testing.T, l []int, call func(l []int) []int) {
	t.Helper()
	const room = 20
	roomy := append(make([]int, 0, len(l)+room), l...)
	got := call(roomy)
	kept := slices.Clone(got)
	for i := range got[:cap(got)] {
		got[:cap(got)][i] = -5
	}
	if !slices.Equal(roomy, l) || !slices.Equal(roomy[:cap(roomy)][len(l):len(l)+room], make([]int, room)) {
		t.Error(l, roomy)
	}
	if again := call(roomy); !slices.Equal(again, kept) {
		t.Error(l, again, kept)
	}
}

// What the other tests rely on is right.
func TestHelp(t *testing.T) {
	for n, all := range allOrders() {
		if len(all) != factorial(n) || !slices.IsSortedFunc(all, slices.Compare[[]int]) {
			t.Error(n, len(all))
		}
	}
	for n := 1; n <= 6; n++ {
		if all := everyHeights(n); len(all) != choices(2*n, n) {
			t.Error(n, len(all))
		}
	}
	d := dice{seed: 1}
	for _, b := range samples() {
		if !slices.Equal(write(len(b), read(b)), b) || !slices.Equal(exchanged(exchanged(b)), b) {
			t.Error(b)
		}
		p := d.order(len(b))
		if slices.Sort(p); !slices.Equal(p, orders(len(b))[0]) {
			t.Error(p)
		}
	}
	if b := ordered([]int{1, 6, 0}, []int{2, 0, 1}, []int{1, 2, 0}); !slices.Equal(b, []int{5, 0, 2}) {
		t.Error(b)
	}
}
