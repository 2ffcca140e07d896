package schemes_test

import (
	"slices"
	"testing"

	"corsage/api"
	"corsage/schemes"
)

// P6.1: all graphs with up to 6 nodes, and samples with more.
func TestRead(t *testing.T) {
	found, none := 0, 0
	for _, w := range append(samples(), every(6)...) {
		want, has := w.numbers()
		g := w.write()
		kept := slices.Clone(g)
		x, e := schemes.Read(g)
		if has {
			found++
			if x != want || e != api.OK {
				t.Error(g, x, want, e)
			}
		} else {
			none++
			refused(t, x == schemes.Numbers{}, e, api.ErrNone, g, x)
		}
		if !slices.Equal(g, kept) {
			t.Error(kept, g)
		}
	}
	if found < 150 || none < 30000 {
		t.Error(found, none)
	}
}

// P6.1
func TestReadOfSome(t *testing.T) {
	for _, x := range []struct {
		g    []int
		want schemes.Numbers
	}{
		{[]int{2, 1, 8, 4}, schemes.Numbers{N: 4, K: 1, L: 0, M: 0}},
		{[]int{6, 9, 9, 6}, schemes.Numbers{N: 4, K: 2, L: 0, M: 2}},
		{[]int{18, 5, 10, 20, 9}, schemes.Numbers{N: 5, K: 2, L: 0, M: 1}},
		{[]int{6, 5, 3, 48, 40, 24}, schemes.Numbers{N: 6, K: 2, L: 1, M: 0}},
	} {
		if y, e := schemes.Read(x.g); y != x.want || e != api.OK {
			t.Error(x, y, e)
		}
	}
	// one to three nodes, no neighbours, no others, one node with more than the others, a ring
	for _, g := range [][]int{{0}, {0, 0}, {2, 1}, {0, 0, 0}, {2, 1, 0}, {2, 5, 2}, {6, 5, 3}, {0, 0, 0, 0}, {14, 13, 11, 7}, {14, 1, 1, 1}, {2, 5, 2, 0}, {2, 1, 0, 0}, {34, 5, 10, 20, 40, 17}, make([]int, 16), parts(16, 16).write()} {
		y, e := schemes.Read(g)
		refused(t, y == schemes.Numbers{}, e, api.ErrNone, g, y)
	}
	refusesAll(t, notGraphs(), func(g []int) (bool, api.Errno) {
		y, e := schemes.Read(g)
		return y == schemes.Numbers{}, e
	})
}

// P6.7: Numbers that a graph has have no reason against them, and tell how many neighbours any two nodes have in common.
func TestReadHasNoReason(t *testing.T) {
	found := 0
	for _, w := range append(samples(), every(6)...) {
		g := w.write()
		x, e := schemes.Read(g)
		if e != api.OK {
			continue
		}
		found++
		r, f := schemes.Reason(x)
		refused(t, r == 0, f, api.ErrNone, g, x, r)
		for i := range w {
			for j := range i {
				if w[i][j] && w.shared(i, j) != x.L || !w[i][j] && w.shared(i, j) != x.M {
					t.Error(g, x, i, j)
				}
			}
		}
	}
	if found < 150 {
		t.Error(found)
	}
}

// P6.1: any two nodes are neighbours in just one of a graph and its Other; the Other of that is the graph again.
func TestOther(t *testing.T) {
	for _, w := range samples() {
		g := w.write()
		h, e := schemes.Other(g)
		if !slices.Equal(h, w.rest().write()) || e != api.OK {
			t.Error(g, h, e)
		}
		if back, e := schemes.Other(h); !slices.Equal(back, g) || e != api.OK {
			t.Error(g, h, back, e)
		}
	}
	for _, x := range []struct{ g, want []int }{{[]int{0}, []int{0}}, {[]int{0, 0}, []int{2, 1}}, {[]int{2, 1}, []int{0, 0}}, {[]int{2, 5, 2}, []int{4, 0, 1}}, {[]int{0, 0, 0, 0}, []int{14, 13, 11, 7}}} {
		if h, e := schemes.Other(x.g); !slices.Equal(h, x.want) || e != api.OK {
			t.Error(x, h, e)
		}
		ownMemory(t, x.g, func(g []int) []int {
			h, _ := schemes.Other(g)
			return h
		})
	}
	refusesAll(t, notGraphs(), func(g []int) (bool, api.Errno) {
		h, e := schemes.Other(g)
		return len(h) == 0, e
	})
}

// P6.7: Other of a graph with Numbers has those that they tell.
func TestNumbersOfOther(t *testing.T) {
	for _, w := range append(samples(), every(6)...) {
		g := w.write()
		h, e := schemes.Other(g)
		if len(h) != len(g) || e != api.OK {
			t.Fatal(g, h, e)
		}
		x, e := schemes.Read(g)
		y, f := schemes.Read(h)
		if e != f || e == api.OK && y != opposite(x) {
			t.Error(g, x, y, e, f)
		}
	}
	for _, x := range []struct {
		w    web
		want schemes.Numbers
	}{{pairs(5), schemes.Numbers{N: 10, K: 3, L: 0, M: 1}}, {grid(4), schemes.Numbers{N: 16, K: 9, L: 4, M: 6}}, {parts(4, 2), schemes.Numbers{N: 4, K: 2, L: 0, M: 2}}} {
		h, _ := schemes.Other(x.w.write())
		if y, e := schemes.Read(h); y != x.want || e != api.OK {
			t.Error(x.want, y, e)
		}
	}
}
