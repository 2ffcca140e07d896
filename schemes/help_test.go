package schemes_test

import (
	"math"
	"slices"
	"testing"

	"corsage/api"
	"corsage/schemes"
)

// web is a graph as a table that says which nodes are neighbours.
type web [][]bool

// weave returns the web with n nodes in which i and j are neighbours if near(i, j), for i less than j.
func weave(n int, near func(i, j int) bool) web {
	w := make(web, n)
	for i := range w {
		w[i] = make([]bool, n)
	}
	for j := range n {
		for i := range j {
			w[i][j] = near(i, j)
			w[j][i] = w[i][j]
		}
	}
	return w
}

// read returns the web of the graph g.
func read(g []int) web {
	return weave(len(g), func(i, j int) bool { return g[i]&(1<<j) != 0 })
}

// write returns the graph of w.
func (w web) write() []int {
	g := make([]int, len(w))
	for i := range w {
		for j := range w {
			if w[i][j] {
				g[i] += 1 << j
			}
		}
	}
	return g
}

// rest returns the web in which just those are neighbours that are not in w.
func (w web) rest() web {
	return weave(len(w), func(i, j int) bool { return !w[i][j] })
}

// renamed returns w with node i called names[i].
func (w web) renamed(names []int) web {
	n := make(web, len(w))
	for i := range n {
		n[i] = make([]bool, len(w))
	}
	for i := range w {
		for j := range w {
			n[names[i]][names[j]] = w[i][j]
		}
	}
	return n
}

// shared returns how many neighbours i and j have in common.
func (w web) shared(i, j int) int {
	count := 0
	for k := range w {
		if w[i][k] && w[j][k] {
			count++
		}
	}
	return count
}

// numbers returns the Numbers of w, if it has any.
func (w web) numbers() (schemes.Numbers, bool) {
	var near, far, degrees []int
	for i := range w {
		degrees = append(degrees, w.shared(i, i))
		for j := range i {
			if w[i][j] {
				near = append(near, w.shared(i, j))
			} else {
				far = append(far, w.shared(i, j))
			}
		}
	}
	for _, l := range [][]int{near, far, degrees} {
		if len(l) == 0 || slices.Min(l) != slices.Max(l) {
			return schemes.Numbers{}, false
		}
	}
	return schemes.Numbers{N: len(w), K: degrees[0], L: near[0], M: far[0]}, true
}

// switched returns w switched by the nodes that inside names.
func (w web) switched(inside []bool) web {
	return weave(len(w), func(i, j int) bool {
		if inside[i] == inside[j] {
			return w[i][j]
		}
		return !w[i][j]
	})
}

// without returns w without the node v.
func (w web) without(v int) web {
	var kept []int
	for i := range w {
		if i != v {
			kept = append(kept, i)
		}
	}
	return weave(len(kept), func(i, j int) bool { return w[kept[i]][kept[j]] })
}

// odd returns the sets of three nodes with one or three pairs of neighbours.
func (w web) odd() [][3]int {
	var all [][3]int
	for i := range w {
		for j := i + 1; j < len(w); j++ {
			for k := j + 1; k < len(w); k++ {
				pairs := 0
				for _, near := range []bool{w[i][j], w[i][k], w[j][k]} {
					if near {
						pairs++
					}
				}
				if pairs == 1 || pairs == 3 {
					all = append(all, [3]int{i, j, k})
				}
			}
		}
	}
	return all
}

// members tells which of n nodes are in a set.
func members(set, n int) []bool {
	in := make([]bool, n)
	for i := range in {
		in[i] = set%2 == 1
		set /= 2
	}
	return in
}

// every returns all webs with n nodes.
func every(n int) []web {
	var all []web
	for x := range 1 << (n * (n - 1) / 2) {
		all = append(all, weave(n, func(i, j int) bool { return x>>(j*(j-1)/2+i)&1 == 1 }))
	}
	return all
}

// small returns all webs with up to 5 nodes.
func small() []web {
	var all []web
	for n := 1; n <= 5; n++ {
		all = append(all, every(n)...)
	}
	return all
}

// parts returns a web of n nodes in which any b in a row are all neighbours of each other.
func parts(n, b int) web {
	return weave(n, func(i, j int) bool { return i/b == j/b })
}

// grid returns the web of the fields of a board with n rows that a rook walks.
func grid(n int) web {
	return weave(n*n, func(i, j int) bool { return i/n == j/n || i%n == j%n })
}

// pairs returns the web of the pairs of numbers below n that meet.
func pairs(n int) web {
	var all [][2]int
	for a := range n {
		for b := a + 1; b < n; b++ {
			all = append(all, [2]int{a, b})
		}
	}
	return weave(len(all), func(i, j int) bool {
		p, q := all[i], all[j]
		return p[0] == q[0] || p[0] == q[1] || p[1] == q[0] || p[1] == q[1]
	})
}

// squares returns the web of numbers modulo p, neighbours if x^2 is their difference for an x.
func squares(p int) web {
	return weave(p, func(i, j int) bool {
		for x := 1; x < p; x++ {
			if (x*x-(j-i))%p == 0 {
				return true
			}
		}
		return false
	})
}

// clebsch returns a web with 16 5 0 2.
func clebsch() web {
	return weave(16, func(i, j int) bool { return slices.Contains([]int{1, 2, 4, 8, 15}, i^j) })
}

// shrikhande returns a web with the Numbers of a grid, 16 6 2 2, that is none.
func shrikhande() web {
	return weave(16, func(i, j int) bool {
		down, right := (j/4-i/4+4)%4, (j%4-i%4+4)%4
		return slices.Contains([][2]int{{0, 1}, {0, 3}, {1, 0}, {3, 0}, {1, 1}, {3, 3}}, [2]int{down, right})
	})
}

// regular returns webs that have Numbers, each with its rest.
func regular() []web {
	all := []web{squares(5), squares(13), pairs(4), pairs(5), pairs(6), grid(2), grid(3), grid(4), clebsch(), shrikhande()}
	for n := 4; n <= 16; n++ {
		for b := 2; b < n; b++ {
			if n%b == 0 {
				all = append(all, parts(n, b))
			}
		}
	}
	for _, w := range slices.Clone(all) {
		all = append(all, w.rest())
	}
	return all
}

// dice gives the same numbers in every run.
type dice struct{ seed uint64 }

func (d *dice) below(n int) int {
	d.seed = d.seed*6364136223846793005 + 1442695040888963407
	return int(d.seed >> 33 % uint64(n))
}

// mixed returns w with its nodes called otherwise.
func (d *dice) mixed(w web) web {
	names := make([]int, len(w))
	for i := range names {
		names[i] = i
		k := d.below(i + 1)
		names[i], names[k] = names[k], names[i]
	}
	return w.renamed(names)
}

// any returns a web with n nodes in which two are neighbours with the odds part of 4.
func (d *dice) any(n, part int) web {
	return weave(n, func(i, j int) bool { return d.below(4) < part })
}

// near returns w with one pair, neighbours or not, turned into the other.
func (d *dice) near(w web) web {
	j := 1 + d.below(len(w)-1)
	i := d.below(j)
	return weave(len(w), func(a, b int) bool { return w[a][b] != (a == i && b == j) })
}

// samples returns all webs with up to 5 nodes, those with Numbers, as they are and renamed, some that are almost such, and of 6 to 16 nodes the empty one, the full one, those in which all but one are neighbours of each other, or of that one, rings, and some with few, half and most neighbours.
func samples() []web {
	all := small()
	d := dice{seed: 6}
	for _, w := range regular() {
		all = append(all, w, d.mixed(w), d.near(w), d.near(d.mixed(w)))
	}
	for n := 6; n <= 16; n++ {
		all = append(all, parts(n, 1), parts(n, n), parts(n, n-1), parts(n, n-1).rest())
		// a ring, and a ring with the opposite ones
		all = append(all, weave(n, func(i, j int) bool { return j-i == 1 || j-i == n-1 }))
		all = append(all, weave(n, func(i, j int) bool { return j-i == 1 || j-i == n-1 || 2*(j-i) == n }))
		for part := 1; part <= 3; part++ {
			for range 5 {
				all = append(all, d.any(n, part))
			}
		}
	}
	return all
}

// notGraphs are slices that are no graphs.
func notGraphs() [][]int {
	all := [][]int{nil, {}, {1}, {2}, {2, 0}, {0, 1}, {3, 1}, {2, 3}, {3, 3}, {6, 1, 0}, {2, 1, 1}, {2, 5, 0}, {4, 4, 1}, {6, 5, 7}, {2, 1, 8, 2}, {2, 1, 8, 5},
		make([]int, 17), make([]int, 18), make([]int, 100000), read(make([]int, 17)).rest().write()}
	for n := 1; n <= 16; n++ {
		full := parts(n, n).write()
		for _, row := range []int{-1, -2, 1 << n, -1 << n, 1 << 32, math.MaxInt, math.MinInt} {
			first, last := make([]int, n), slices.Clone(full)
			first[0], last[n-1] = row, last[n-1]|row
			all = append(all, first, last, slices.Repeat([]int{row}, n))
		}
		// a node that is its own neighbour, and one that is a neighbour of another alone
		for _, i := range []int{0, n / 2, n - 1} {
			self, lone := slices.Clone(full), slices.Clone(full)
			self[i] |= 1 << i
			lone[i] = 0
			all = append(all, self)
			if n > 1 {
				all = append(all, lone)
			}
		}
	}
	return all
}

// strange are numbers that are no node, set or size anywhere.
func strange() []int {
	return []int{-1, -2, -5, -13, 1 << 16, 1<<16 + 5, 1 << 32, 1<<32 + 5, math.MaxInt, math.MaxInt - 1, math.MinInt, math.MinInt + 1}
}

// refused checks an error and that the other result is its zero value.
func refused(t *testing.T, zero bool, e, want api.Errno, about ...any) {
	t.Helper()
	if !zero || e != want {
		t.Error(about, zero, e, want)
	}
}

// refusesAll checks that a function refuses all these slices, and leaves them as they are.
func refusesAll(t *testing.T, slicesOf [][]int, call func(l []int) (zero bool, e api.Errno)) {
	t.Helper()
	for _, l := range slicesOf {
		kept := slices.Clone(l)
		zero, e := call(l)
		refused(t, zero, e, api.ErrArg, len(l), l[:min(len(l), 20)])
		if !slices.Equal(l, kept) {
			t.Error(len(l), "changed")
		}
	}
}

// ownMemory checks that a function leaves its argument as it is, also behind its end, and that its result shares no memory with it.
func ownMemory(t *testing.T, l []int, call func(l []int) []int) {
	t.Helper()
	const room = 40
	roomy := append(make([]int, 0, len(l)+room), l...)
	got := call(roomy)
	kept := slices.Clone(got)
	for i := range got[:cap(got)] {
		got[:cap(got)][i] = -5
	}
	if !slices.Equal(roomy, l) || !slices.Equal(roomy[:cap(roomy)][len(l):len(l)+room], make([]int, room)) {
		t.Error(l, roomy)
	}
	if again := call(roomy); !slices.Equal(again, kept) {
		t.Error(l, again, kept)
	}
}

// What the other tests rely on is right.
func TestHelp(t *testing.T) {
	for n, want := range []int{1, 2, 8, 64, 1024} {
		all := every(n + 1)
		for i, w := range all {
			if !slices.Equal(read(w.write()).write(), w.write()) || i > 0 && slices.Equal(w.write(), all[i-1].write()) {
				t.Error(w)
			}
		}
		if len(all) != want {
			t.Error(n, len(all))
		}
	}
	for _, w := range regular() {
		if _, ok := w.numbers(); !ok {
			t.Error(w.write())
		}
	}
	for _, x := range []struct {
		w    web
		want schemes.Numbers
	}{
		{clebsch(), schemes.Numbers{N: 16, K: 5, L: 0, M: 2}},
		{shrikhande(), schemes.Numbers{N: 16, K: 6, L: 2, M: 2}},
		{parts(12, 3), schemes.Numbers{N: 12, K: 2, L: 1, M: 0}},
		{parts(12, 3).rest(), schemes.Numbers{N: 12, K: 9, L: 6, M: 9}},
	} {
		if y, ok := x.w.numbers(); y != x.want || !ok {
			t.Error(x.want, y)
		}
	}
	if w := read([]int{2, 5, 2}).renamed([]int{1, 0, 2}); !slices.Equal(w.write(), []int{6, 1, 1}) {
		t.Error(w)
	}
	if w := read([]int{2, 5, 2}).switched(members(4, 3)); !slices.Equal(w.write(), []int{6, 1, 1}) {
		t.Error(w)
	}
	if w := read([]int{2, 5, 2}).without(0); !slices.Equal(w.write(), []int{2, 1}) {
		t.Error(w)
	}
	if l := read([]int{2, 1, 0, 0}).odd(); !slices.Equal(l, [][3]int{{0, 1, 2}, {0, 1, 3}}) {
		t.Error(l)
	}
}
