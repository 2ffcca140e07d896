package schemes_test

import (
	"slices"
	"testing"

	"corsage/api"
	"corsage/schemes"
)

// sets returns all sets of n nodes if they are few, else some.
func sets(n int) []int {
	if n <= 6 {
		all := make([]int, 1<<n)
		for set := range all {
			all[set] = set
		}
		return all
	}
	d := dice{seed: 64}
	all := []int{0, 1, 1 << (n - 1), 1<<n - 1, 1<<(n-1) - 1, 1<<n - 2}
	for range 10 {
		all = append(all, d.below(1<<n))
	}
	return all
}

// P6.4, P6.10: switching twice by a set changes nothing, and no switching changes which sets of three are odd.
func TestSwitch(t *testing.T) {
	for _, w := range samples() {
		g := w.write()
		odd, e := schemes.Odd(g)
		if e != api.OK {
			t.Fatal(g, e)
		}
		for _, set := range sets(len(w)) {
			kept := slices.Clone(g)
			h, e := schemes.Switch(g, set)
			if !slices.Equal(h, w.switched(members(set, len(w))).write()) || e != api.OK || !slices.Equal(g, kept) {
				t.Error(kept, g, set, h, e)
			}
			if back, e := schemes.Switch(h, set); !slices.Equal(back, g) || e != api.OK {
				t.Error(g, set, h, back, e)
			}
			if x, e := schemes.Odd(h); x != odd || e != api.OK {
				t.Error(g, set, x, odd, e)
			}
		}
	}
	for _, x := range []struct {
		g    []int
		set  int
		want []int
	}{{[]int{0}, 0, []int{0}}, {[]int{0}, 1, []int{0}}, {[]int{2, 1}, 1, []int{0, 0}}, {[]int{2, 1}, 3, []int{2, 1}}, {[]int{0, 0, 0}, 2, []int{2, 5, 2}}, {[]int{2, 5, 2}, 1, []int{4, 4, 3}}} {
		if h, e := schemes.Switch(x.g, x.set); !slices.Equal(h, x.want) || e != api.OK {
			t.Error(x, h, e)
		}
		ownMemory(t, x.g, func(g []int) []int {
			h, _ := schemes.Switch(g, x.set)
			return h
		})
	}
}

// P6.4: what is no graph, and what is no set of nodes.
func TestSwitchRefuses(t *testing.T) {
	for _, set := range append(strange(), 0, 1) {
		refusesAll(t, notGraphs(), func(g []int) (bool, api.Errno) {
			h, e := schemes.Switch(g, set)
			return len(h) == 0, e
		})
	}
	for n := 1; n <= 16; n++ {
		for _, set := range append(strange(), 1<<n, 1<<n+1, -1<<n, 1<<(n+1)-1) {
			h, e := schemes.Switch(make([]int, n), set)
			refused(t, len(h) == 0, e, api.ErrArg, n, set)
		}
	}
}

// P6.4
func TestOdd(t *testing.T) {
	for _, w := range samples() {
		g := w.write()
		kept := slices.Clone(g)
		if x, e := schemes.Odd(g); x != len(w.odd()) || e != api.OK || !slices.Equal(g, kept) {
			t.Error(kept, g, x, e)
		}
	}
	for _, x := range []struct {
		g    []int
		want int
	}{{[]int{0}, 0}, {[]int{2, 1}, 0}, {[]int{0, 0, 0}, 0}, {[]int{2, 1, 0}, 1}, {[]int{2, 5, 2}, 0}, {[]int{6, 5, 3}, 1}, {parts(16, 16).write(), 560}, {squares(5).write(), 5}} {
		if y, e := schemes.Odd(x.g); y != x.want || e != api.OK {
			t.Error(x, y, e)
		}
	}
	refusesAll(t, notGraphs(), func(g []int) (bool, api.Errno) {
		x, e := schemes.Odd(g)
		return x == 0, e
	})
}

// makes returns the least set by which switching makes h of w, if there is one: all sets are tried.
func makes(w, h web) (least int, found bool) {
	n := len(w)
	for set := range 1 << n {
		fits := true
		for j := 0; j < n && fits; j++ {
			for i := 0; i < j && fits; i++ {
				fits = h[i][j] == (w[i][j] != (set>>i&1 != set>>j&1))
			}
		}
		if fits {
			return set, true
		}
	}
	return 0, false
}

// couples returns couples of webs with as many nodes: all with up to 4, some with more, many of which a switching makes alike.
func couples() [][2]web {
	var all [][2]web
	for n := 1; n <= 4; n++ {
		for _, w := range every(n) {
			for _, h := range every(n) {
				all = append(all, [2]web{w, h})
			}
		}
	}
	d := dice{seed: 610}
	for _, w := range samples() {
		n := len(w)
		if n == 1 {
			continue
		}
		h := w.switched(members(d.below(1<<n), n))
		all = append(all, [2]web{w, w}, [2]web{w, h}, [2]web{h, w}, [2]web{w, d.near(h)}, [2]web{d.near(w), h}, [2]web{w, d.any(n, 2)}, [2]web{w, w.rest()})
	}
	return all
}

// P6.4, P6.10: switching makes one of the other if and only if the same sets of three are odd.
func TestSame(t *testing.T) {
	found, none := 0, 0
	for _, c := range couples() {
		g, h := c[0].write(), c[1].write()
		want, can := makes(c[0], c[1])
		if alike := slices.Equal(c[0].odd(), c[1].odd()); alike != can {
			t.Error(g, h, alike, can)
		}
		keptG, keptH := slices.Clone(g), slices.Clone(h)
		set, e := schemes.Same(g, h)
		if can {
			found++
			if set != want || e != api.OK {
				t.Error(g, h, set, want, e)
			}
			if s, e := schemes.Switch(g, set); !slices.Equal(s, h) || e != api.OK {
				t.Error(g, h, set, s, e)
			}
		} else {
			none++
			refused(t, set == 0, e, api.ErrNone, g, h, set)
		}
		if !slices.Equal(g, keptG) || !slices.Equal(h, keptH) {
			t.Error(keptG, g, keptH, h)
		}
	}
	if found < 1000 || none < 1000 {
		t.Error(found, none)
	}
}

// P6.4
func TestSameOfSome(t *testing.T) {
	for _, x := range []struct {
		g, h []int
		want int
		e    api.Errno
	}{
		{[]int{0}, []int{0}, 0, api.OK},
		{[]int{0, 0}, []int{2, 1}, 1, api.OK},
		{[]int{2, 1, 0}, []int{6, 5, 3}, 3, api.OK},
		{[]int{0, 0, 0}, []int{2, 1, 0}, 0, api.ErrNone},
		{[]int{0, 0, 0}, []int{6, 5, 3}, 0, api.ErrNone},
		{[]int{0, 0, 0, 0}, []int{8, 8, 8, 7}, 7, api.OK},
	} {
		if set, e := schemes.Same(x.g, x.h); set != x.want || e != x.e {
			t.Error(x, set, e)
		}
	}
}

// P6.4: what are no graphs, on either side, and graphs that have not as many nodes.
func TestSameRefuses(t *testing.T) {
	for _, good := range [][]int{{0}, {2, 1}, parts(16, 4).write()} {
		refusesAll(t, notGraphs(), func(g []int) (bool, api.Errno) {
			x, e := schemes.Same(g, good)
			y, f := schemes.Same(good, g)
			z, d := schemes.Same(g, g)
			return x == 0 && y == 0 && z == 0 && e == f && e == d, e
		})
	}
	// beside one that is none, also graphs with as many nodes
	refusesAll(t, notGraphs(), func(g []int) (bool, api.Errno) {
		good := make([]int, min(max(len(g), 1), 16))
		x, e := schemes.Same(g, good)
		y, f := schemes.Same(good, g)
		return x == 0 && y == 0 && e == f, e
	})
	for n := 1; n <= 16; n++ {
		for m := 1; m <= 16; m++ {
			set, e := schemes.Same(make([]int, n), parts(m, m).write())
			if n != m {
				refused(t, set == 0, e, api.ErrArg, n, m, set)
			}
		}
	}
}

// P6.5
func TestAlone(t *testing.T) {
	for _, w := range samples() {
		g := w.write()
		if len(w) == 1 {
			continue
		}
		for v := range w {
			want := w.switched(w[v]).without(v).write()
			kept := slices.Clone(g)
			if h, e := schemes.Alone(g, v); !slices.Equal(h, want) || e != api.OK || !slices.Equal(g, kept) {
				t.Error(kept, g, v, h, want, e)
			}
		}
	}
	for _, x := range []struct {
		g    []int
		v    int
		want []int
	}{{[]int{0, 0}, 0, []int{0}}, {[]int{2, 1}, 1, []int{0}}, {[]int{2, 1, 0}, 0, []int{2, 1}}, {[]int{2, 5, 2}, 1, []int{0, 0}}, {[]int{2, 5, 2}, 2, []int{0, 0}}, {[]int{2, 1, 8, 4}, 2, []int{6, 5, 3}}} {
		if h, e := schemes.Alone(x.g, x.v); !slices.Equal(h, x.want) || e != api.OK {
			t.Error(x, h, e)
		}
		ownMemory(t, x.g, func(g []int) []int {
			h, _ := schemes.Alone(g, x.v)
			return h
		})
	}
}

// P6.5: what is no graph, one node, and what is no node.
func TestAloneRefuses(t *testing.T) {
	for _, v := range []int{0, 1, 15, -1} {
		refusesAll(t, append(notGraphs(), []int{0}), func(g []int) (bool, api.Errno) {
			h, e := schemes.Alone(g, v)
			return len(h) == 0, e
		})
	}
	for n := 1; n <= 16; n++ {
		for _, v := range append(strange(), n, n+1, 16, 63, 64, 65) {
			h, e := schemes.Alone(parts(n, n).write(), v)
			refused(t, len(h) == 0, e, api.ErrArg, n, v)
		}
	}
}

// checkAlone checks what Alone of a graph with the Numbers x gives if N = 2 (2 K - L - M), and tells whether it is.
func checkAlone(t *testing.T, g []int, x schemes.Numbers) bool {
	t.Helper()
	if x.N != 2*(2*x.K-x.L-x.M) {
		return false
	}
	want := schemes.Numbers{N: x.N - 1, K: 2 * (x.K - x.M), L: x.K + x.L - 2*x.M, M: x.K - x.M}
	for v := range g {
		h, e := schemes.Alone(g, v)
		if len(h) != x.N-1 || e != api.OK {
			t.Error(g, v, h, e)
		}
		y, e := schemes.Read(h)
		if want.K >= 1 && want.K <= want.N-2 {
			if y != want || e != api.OK {
				t.Error(g, x, v, y, want, e)
			}
		} else {
			refused(t, y == schemes.Numbers{}, e, api.ErrNone, g, x, v, y)
		}
	}
	return true
}

// P6.11: graphs with Numbers, and those that switching makes of them by each set up to 15 nodes, and each seventh with 16.
func TestAloneHasNumbers(t *testing.T) {
	seen := map[schemes.Numbers]bool{}
	for _, w := range regular() {
		g := w.write()
		step := 1
		if len(g) == 16 {
			step = 7
		}
		for set := 0; set < 1<<(len(g)-1); set += step {
			h, e := schemes.Switch(g, set)
			x, f := schemes.Read(h)
			if e == api.OK && f == api.OK && checkAlone(t, h, x) {
				seen[x] = true
			}
		}
	}
	for _, x := range []schemes.Numbers{{N: 4, K: 1, L: 0, M: 0}, {N: 10, K: 3, L: 0, M: 1}, {N: 10, K: 6, L: 3, M: 4}, {N: 16, K: 5, L: 0, M: 2}, {N: 16, K: 6, L: 2, M: 2}, {N: 16, K: 10, L: 6, M: 6}, {N: 16, K: 9, L: 4, M: 6}} {
		if !seen[x] {
			t.Error(x, seen)
		}
	}
	g := grid(4).write()
	h, _ := schemes.Alone(g, 3)
	if y, e := schemes.Read(h); y != (schemes.Numbers{N: 15, K: 8, L: 4, M: 4}) || e != api.OK {
		t.Error(y, e)
	}
}
