package rooks_test

import (
	"slices"
	"testing"

	"corsage/api"
	"corsage/rooks"
)

// P5.1
func TestRooks(t *testing.T) {
	for _, b := range samples() {
		kept := slices.Clone(b)
		if l, e := rooks.Rooks(b); !slices.Equal(l, placed(len(b), read(b))) || e != api.OK || !slices.Equal(b, kept) {
			t.Error(kept, b, l, e)
		}
	}
	for _, x := range []struct{ b, want []int }{
		{[]int{0}, []int{1, 0}},
		{[]int{1}, []int{1, 1}},
		{[]int{0, 0, 0, 0, 0, 0}, []int{1, 0, 0, 0, 0, 0, 0}},
		{[]int{1, 2, 4}, []int{1, 3, 3, 1}},
		{[]int{1, 3, 3}, []int{1, 5, 4, 0}},
		{[]int{63, 63, 63, 63, 63, 63}, []int{1, 36, 450, 2400, 5400, 4320, 720}},
	} {
		if l, e := rooks.Rooks(x.b); !slices.Equal(l, x.want) || e != api.OK {
			t.Error(x, l, e)
		}
		ownMemory(t, x.b, func(b []int) []int {
			l, _ := rooks.Rooks(b)
			return l
		})
	}
	refusesAll(t, notBoards(), func(b []int) (bool, api.Errno) {
		l, e := rooks.Rooks(b)
		return len(l) == 0, e
	})
}

// P5.1
func TestHits(t *testing.T) {
	all := allOrders()
	for _, b := range samples() {
		want := make([]int, len(b)+1)
		for _, p := range all[len(b)] {
			want[hit(b, p)]++
		}
		kept := slices.Clone(b)
		if l, e := rooks.Hits(b); !slices.Equal(l, want) || e != api.OK || !slices.Equal(b, kept) {
			t.Error(kept, b, l, want, e)
		}
	}
	for _, x := range []struct{ b, want []int }{
		{[]int{0}, []int{1, 0}},
		{[]int{1}, []int{0, 1}},
		{[]int{1, 2, 4}, []int{2, 3, 0, 1}},
		{[]int{0, 0, 0, 0, 0, 0}, []int{720, 0, 0, 0, 0, 0, 0}},
		{[]int{1, 2, 4, 8, 16, 32}, []int{265, 264, 135, 40, 15, 0, 1}},
	} {
		if l, e := rooks.Hits(x.b); !slices.Equal(l, x.want) || e != api.OK {
			t.Error(x, l, e)
		}
		ownMemory(t, x.b, func(b []int) []int {
			l, _ := rooks.Hits(b)
			return l
		})
	}
	refusesAll(t, notBoards(), func(b []int) (bool, api.Errno) {
		l, e := rooks.Hits(b)
		return len(l) == 0, e
	})
}

// P5.8: cutting at each square of the board.
func TestCutting(t *testing.T) {
	for _, b := range samples() {
		if len(b) < 2 {
			continue
		}
		r, _ := rooks.Rooks(b)
		for _, s := range read(b) {
			fewer := slices.Clone(b)
			fewer[s.i] ^= 1 << s.j
			kept, e := rooks.Rooks(fewer)
			cut, f := rooks.Without(b, s.i, s.j)
			used, g := rooks.Rooks(cut)
			if e != api.OK || f != api.OK || g != api.OK || len(r) != len(b)+1 || len(kept) != len(r) || len(used) != len(b) {
				t.Fatal(b, s, r, kept, used, e, f, g)
			}
			for k := 1; k <= len(b); k++ {
				if r[k] != kept[k]+used[k-1] {
					t.Error(b, s, k, r, kept, used)
				}
			}
		}
	}
}

// P5.9
func TestHitsAndRooks(t *testing.T) {
	for _, b := range samples() {
		n := len(b)
		r, e := rooks.Rooks(b)
		h, f := rooks.Hits(b)
		if len(r) != n+1 || len(h) != n+1 || e != api.OK || f != api.OK {
			t.Fatal(b, r, h, e, f)
		}
		total := 0
		for _, x := range h {
			total += x
		}
		if total != factorial(n) {
			t.Error(b, h)
		}
		for k := range r {
			sum := 0
			for m := range h {
				sum += h[m] * choices(m, k)
			}
			if sum != r[k]*factorial(n-k) {
				t.Error(b, k, r, h)
			}
		}
		o, _ := rooks.Other(b)
		back, e := rooks.Hits(o)
		slices.Reverse(back)
		if !slices.Equal(back, h) || e != api.OK {
			t.Error(b, o, h, back, e)
		}
	}
}

// P5.2: of all permutations, in order, the first without a hit.
func TestAvoid(t *testing.T) {
	all := allOrders()
	for _, b := range samples() {
		first := slices.IndexFunc(all[len(b)], func(p []int) bool { return hit(b, p) == 0 })
		kept := slices.Clone(b)
		l, e := rooks.Avoid(b)
		if first < 0 {
			refused(t, len(l) == 0, e, api.ErrNone, b, l)
		} else if !slices.Equal(l, all[len(b)][first]) || e != api.OK {
			t.Error(b, l, all[len(b)][first], e)
		}
		if !slices.Equal(b, kept) {
			t.Error(kept, b)
		}
	}
	for _, x := range []struct{ b, want []int }{
		{[]int{0}, []int{0}},
		{[]int{1, 2, 4}, []int{1, 2, 0}},
		{[]int{0, 1, 1}, []int{0, 1, 2}},
		{[]int{0, 0, 0, 0, 0, 31}, []int{0, 1, 2, 3, 4, 5}},
		{[]int{3, 4, 0, 0, 0, 0}, []int{2, 0, 1, 3, 4, 5}},
		{[]int{31, 47, 55, 59, 61, 62}, []int{5, 4, 3, 2, 1, 0}},
	} {
		if l, e := rooks.Avoid(x.b); !slices.Equal(l, x.want) || e != api.OK {
			t.Error(x, l, e)
		}
		ownMemory(t, x.b, func(b []int) []int {
			l, _ := rooks.Avoid(b)
			return l
		})
	}
	refusesAll(t, notBoards(), func(b []int) (bool, api.Errno) {
		l, e := rooks.Avoid(b)
		return len(l) == 0, e
	})
}

// isBarrier reports whether the sets of rows and columns are a barrier of b.
func isBarrier(b []int, rows, columns int) bool {
	r, c := 0, 0
	for i := range b {
		r += rows >> i & 1
		c += columns >> i & 1
	}
	if r+c <= len(b) {
		return false
	}
	for i, row := range b {
		for j := range b {
			if rows>>i&1 == 1 && columns>>j&1 == 1 && row>>j&1 == 0 {
				return false
			}
		}
	}
	return true
}

// firstBarrier returns, of all barriers, the one with the least rows, then with the greatest columns.
func firstBarrier(b []int) (rows, columns int, found bool) {
	n := 1 << len(b)
	for rows := range n {
		for columns := n - 1; columns >= 0; columns-- {
			if isBarrier(b, rows, columns) {
				return rows, columns, true
			}
		}
	}
	return 0, 0, false
}

// P5.2, P5.10: just one of Avoid and Barrier is OK, and Avoid where the first hit number is not 0.
func TestBarrier(t *testing.T) {
	found, none := 0, 0
	for _, b := range samples() {
		wantRows, wantColumns, is := firstBarrier(b)
		kept := slices.Clone(b)
		rows, columns, e := rooks.Barrier(b)
		_, f := rooks.Avoid(b)
		h, _ := rooks.Hits(b)
		if !slices.Equal(b, kept) || len(h) == 0 {
			t.Fatal(kept, b, h)
		}
		if is {
			found++
			if rows != wantRows || columns != wantColumns || e != api.OK || f != api.ErrNone || h[0] != 0 {
				t.Error(b, rows, columns, wantRows, wantColumns, e, f, h)
			}
		} else {
			none++
			refused(t, rows == 0 && columns == 0, e, api.ErrNone, b)
			if f != api.OK || h[0] == 0 {
				t.Error(b, f, h)
			}
		}
	}
	if found < 100 || none < 100 {
		t.Error(found, none)
	}
	for _, x := range []struct {
		b             []int
		rows, columns int
	}{
		{[]int{1}, 1, 1},
		{[]int{7, 7, 0}, 1, 7},
		{[]int{3, 3, 0}, 3, 3},
		{[]int{0, 3, 7}, 4, 7},
		{[]int{2, 6, 2}, 7, 2},
		{[]int{0, 0, 6, 7, 6}, 0, 0},
		{[]int{33, 33, 33, 33, 33, 0}, 31, 33},
		{[]int{0, 0, 0, 0, 0, 63}, 32, 63},
		{[]int{32, 32, 32, 32, 32, 32}, 63, 32},
	} {
		want := api.OK
		if x.rows == 0 {
			want = api.ErrNone
		}
		if r, c, e := rooks.Barrier(x.b); r != x.rows || c != x.columns || e != want {
			t.Error(x, r, c, e)
		}
	}
	refusesAll(t, notBoards(), func(b []int) (bool, api.Errno) {
		r, c, e := rooks.Barrier(b)
		return r == 0 && c == 0, e
	})
}

// P5.12: all orders of rows and of columns up to 3 rows, some of more; and rows exchanged with columns.
func TestOrder(t *testing.T) {
	d := dice{seed: 12}
	all := allOrders()
	for _, b := range samples() {
		n := len(b)
		others := [][]int{exchanged(b)}
		if n <= 3 {
			for _, p := range all[n] {
				others = append(others, ordered(b, p, all[n][0]), ordered(b, all[n][0], p))
			}
		}
		for range 5 {
			others = append(others, d.mixed(b))
		}
		r, e := rooks.Rooks(b)
		h, f := rooks.Hits(b)
		if e != api.OK || f != api.OK {
			t.Error(b, e, f)
		}
		for _, o := range others {
			if l, e := rooks.Rooks(o); !slices.Equal(l, r) || e != api.OK {
				t.Error(b, o, l, r, e)
			}
			if l, e := rooks.Hits(o); !slices.Equal(l, h) || e != api.OK {
				t.Error(b, o, l, h, e)
			}
		}
	}
}

// between returns the board of the seats that are beside each of n guests.
func between(n int) []int {
	var squares []square
	for i := range n {
		squares = append(squares, square{i, i}, square{i, (i + 1) % n})
	}
	return write(n, squares)
}

// P5.6: the number is known by another sum, over how many guests do sit beside themselves.
func TestGuests(t *testing.T) {
	for n, want := range map[int]int{2: 0, 3: 1, 4: 2, 5: 13, 6: 80, 7: 579, 8: 4738} {
		sum, sign := 0, 1
		for k := range n + 1 {
			sum += sign * 2 * n * choices(2*n-k, k) / (2*n - k) * factorial(n-k)
			sign = -sign
		}
		if x, e := rooks.Guests(n); x != want || x != sum || e != api.OK {
			t.Error(n, x, want, sum, e)
		}
	}
	for _, n := range append(strange(), 0, 1, 9, 10, 1<<32+3) {
		x, e := rooks.Guests(n)
		refused(t, x == 0, e, api.ErrArg, n)
	}
}

// P5.6, P5.13
func TestGuestsAndHits(t *testing.T) {
	all := allOrders()
	for n := 2; n <= api.MaxBoard; n++ {
		count := 0
		for _, p := range all[n] {
			if !slices.ContainsFunc(orders(n)[0], func(i int) bool { return p[i] == i || p[i] == (i+1)%n }) {
				count++
			}
		}
		x, e := rooks.Guests(n)
		h, f := rooks.Hits(between(n))
		if x != count || e != api.OK || len(h) != n+1 || h[0] != x || f != api.OK {
			t.Error(n, x, count, h, e, f)
		}
	}
}
