package arcs_test

import (
	"math"
	"slices"
	"testing"

	"corsage/api"
	"corsage/arcs"
)

// P3.8, P3.9
func TestMapExamples(t *testing.T) {
	turn := arcs.Matrix{{0, 1, 0}, {0, 0, 1}, {1, 0, 0}}
	// 0 0 1 goes to 0 1 0, that to 1 0 0, that back
	for _, x := range [][2]int{{0, 1}, {1, 3}, {3, 0}, {6, 6}} {
		if y, e := arcs.Apply(2, turn, x[0]); y != x[1] || e != api.OK {
			t.Error(x, y, e)
		}
	}
	if m, e := arcs.Frame(2, [4]int{0, 1, 3, 6}, [4]int{1, 3, 0, 6}); m != turn || e != api.OK {
		t.Error(m, e)
	}
	unit := arcs.Matrix{{1, 0, 0}, {0, 1, 0}, {0, 0, 1}}
	if m, e := arcs.Frame(7, [4]int{0, 1, 8, 16}, [4]int{0, 1, 8, 16}); m != unit || e != api.OK {
		t.Error(m, e)
	}
	// 0 0 1, 0 1 0, 0 1 1, 0 1 2: 1 divided by 2
	for _, x := range [][2]int{{3, 2}, {5, 3}, {7, 4}} {
		if n, e := arcs.Cross(x[0], 0, 1, 2, 3); n != x[1] || e != api.OK {
			t.Error(x, n, e)
		}
	}
}

// P3.8, P3.14: all maps for 2 and 3, and some for 5 and 7; each moves the points as it should, those of a line to those of a line.
func TestApply(t *testing.T) {
	for _, o := range worlds() {
		for _, m := range o.maps(200) {
			to := make([]int, len(o.points))
			for x := range to {
				y, e := arcs.Apply(o.p, m, x)
				if e != api.OK || y != o.apply(m, x) {
					t.Error(o.p, m, x, y, e)
				}
				to[x] = y
			}
			for _, l := range o.lines {
				var moved []int
				for _, x := range list(l) {
					moved = append(moved, to[x])
				}
				if !slices.Contains(o.lines, bitsOf(moved)) {
					t.Error(o.p, m, list(l), moved)
				}
			}
		}
	}
}

// P3.14
func TestApplyKeepsArcs(t *testing.T) {
	for _, o := range worlds() {
		some := o.some(9973)
		for k, m := range o.maps(100) {
			set := some[k%len(some)]
			moved := uint64(0)
			for _, x := range list(set) {
				y, e := arcs.Apply(o.p, m, x)
				if e != api.OK {
					t.Fatal(o.p, m, x, e)
				}
				moved |= 1 << y
			}
			ok, e := arcs.Arc(o.p, list(moved))
			if !ok || e != api.OK || len(list(moved)) != len(list(set)) {
				t.Error(o.p, m, list(set), list(moved), ok, e)
			}
		}
	}
}

// P3.8: what is no map, among all matrices for 2 and 3 and some for the others.
func TestApplyErrors(t *testing.T) {
	unit := arcs.Matrix{{1, 0, 0}, {0, 1, 0}, {0, 0, 1}}
	for _, p := range notPrimes() {
		x, e := arcs.Apply(p, unit, 0)
		refused(t, x == 0, e, api.ErrArg, p)
	}
	for _, o := range worlds() {
		for _, n := range notNumbers(o.p) {
			x, e := arcs.Apply(o.p, unit, n)
			refused(t, x == 0, e, api.ErrArg, o.p, n)
		}
		for n := range 19683 {
			m := o.matrix(n * 7919)
			if o.p <= 3 {
				m = o.matrix(n)
			}
			x, e := arcs.Apply(o.p, m, 1)
			if !o.isMap(m) {
				refused(t, x == 0, e, api.ErrArg, o.p, m)
			} else if e != api.OK {
				t.Error(o.p, m, x, e)
			}
		}
		for i := range 9 {
			for _, n := range []int{o.p, -1, -o.p, 1 + o.p, 1 - o.p, math.MaxInt, math.MinInt} {
				m := unit
				m[i/3][i%3] = n
				x, e := arcs.Apply(o.p, m, 1)
				refused(t, x == 0, e, api.ErrArg, o.p, m)
			}
		}
		for k := 2; k < o.p; k++ {
			m := arcs.Matrix{{k, 0, 0}, {0, k, 0}, {0, 0, k}}
			x, e := arcs.Apply(o.p, m, 1)
			refused(t, x == 0, e, api.ErrArg, o.p, m)
		}
	}
}

// P3.8, P3.14: from all frames for 2 and 3, and some for 5 and 7, to three frames each.
func TestFrame(t *testing.T) {
	for _, o := range worlds() {
		frames := o.frames(300)
		for k, a := range frames {
			for _, b := range [][4]int{frames[0], frames[len(frames)-1-k], frames[k*7%len(frames)]} {
				frame(t, o, a, b)
			}
		}
	}
}

// frame checks the map from a to b, and that it and the one from b to a undo each other.
func frame(t *testing.T, o *world, a, b [4]int) {
	t.Helper()
	m, e1 := arcs.Frame(o.p, a, b)
	back, e2 := arcs.Frame(o.p, b, a)
	if e1 != api.OK || e2 != api.OK || !reduced(o.p, m) || !o.isMap(m) {
		t.Fatal(o.p, a, b, m, back, e1, e2)
	}
	for i := range a {
		if x, e := arcs.Apply(o.p, m, a[i]); x != b[i] || e != api.OK {
			t.Error(o.p, a, b, m, i, x, e)
		}
	}
	for x := range o.points {
		y, e1 := arcs.Apply(o.p, m, x)
		z, e2 := arcs.Apply(o.p, back, y)
		if z != x || e1 != api.OK || e2 != api.OK {
			t.Error(o.p, a, b, x, y, z, e1, e2)
		}
	}
}

// reduced reports whether the numbers are from 0 to p - 1.
func reduced(p int, m arcs.Matrix) bool {
	for _, row := range m {
		for _, n := range row {
			if n < 0 || n >= p {
				return false
			}
		}
	}
	return true
}

// P3.8: there is just one map from a frame to another.
func TestFrameIsAlone(t *testing.T) {
	for _, o := range worlds()[:2] {
		frames := o.frames(0)
		a, found := frames[len(frames)/3], map[[4]int]bool{}
		for _, m := range o.maps(0) {
			b := [4]int{o.apply(m, a[0]), o.apply(m, a[1]), o.apply(m, a[2]), o.apply(m, a[3])}
			if got, e := arcs.Frame(o.p, a, b); got != m || e != api.OK || found[b] {
				t.Error(o.p, a, b, got, m, e)
			}
			found[b] = true
		}
		if len(found) != len(frames) {
			t.Error(o.p, len(found), len(frames))
		}
	}
}

// P3.8: ErrArg for numbers of no points, then ErrState for what is no frame, on both sides.
func TestFrameErrors(t *testing.T) {
	for _, p := range notPrimes() {
		m, e := arcs.Frame(p, [4]int{0, 1, 3, 6}, [4]int{0, 1, 3, 6})
		refused(t, m == arcs.Matrix{}, e, api.ErrArg, p)
	}
	for _, o := range worlds() {
		good := o.frames(1)[0]
		for i := range 4 {
			for _, n := range notNumbers(o.p) {
				a, none := good, [4]int{}
				a[i], none[i] = n, n
				for _, x := range [][2][4]int{{a, good}, {good, a}, {a, {}}, {{}, a}, {none, none}} {
					m, e := arcs.Frame(o.p, x[0], x[1])
					refused(t, m == arcs.Matrix{}, e, api.ErrArg, o.p, x)
				}
			}
		}
		n := len(o.points)
		d := dice{seed: 8}
		for k := range 3000 {
			f := [4]int{d.below(n), d.below(n), d.below(n), d.below(n)}
			if k%2 == 0 {
				f[d.below(4)] = f[d.below(4)]
			}
			if o.isFrame(f) {
				continue
			}
			for _, x := range [][2][4]int{{f, good}, {good, f}, {f, f}} {
				m, e := arcs.Frame(o.p, x[0], x[1])
				refused(t, m == arcs.Matrix{}, e, api.ErrState, o.p, x)
			}
		}
	}
}

// crossOf returns the value of Cross by trying all multiples.
func (o *world) crossOf(a, b, c, d int) int {
	u, v := o.parts(a, b, c)
	s, t := o.parts(a, b, d)
	for k := range o.p {
		if k*v*s%o.p == u*t%o.p {
			return k
		}
	}
	return -1
}

// parts returns u and v with c = u a + v b.
func (o *world) parts(a, b, c int) (int, int) {
	x, y, z := o.points[a], o.points[b], o.points[c]
	for u := range o.p {
		for v := range o.p {
			if (u*x[0]+v*y[0]-z[0])%o.p == 0 && (u*x[1]+v*y[1]-z[1])%o.p == 0 && (u*x[2]+v*y[2]-z[2])%o.p == 0 {
				return u, v
			}
		}
	}
	return -1, -1
}

// P3.9: any four points of a line, in any order, on every line for 2, 3 and 5, and on every third one for 7.
func TestCross(t *testing.T) {
	for _, o := range worlds() {
		for k, l := range o.lines {
			if o.p == 7 && k%3 != 0 {
				continue
			}
			on := list(l)
			for _, a := range on {
				for _, b := range on {
					for _, c := range on {
						for _, d := range on {
							crossed(t, o, a, b, c, d)
						}
					}
				}
			}
		}
	}
}

// crossed checks Cross of four points of a line.
func crossed(t *testing.T, o *world, a, b, c, d int) {
	t.Helper()
	n, e := arcs.Cross(o.p, a, b, c, d)
	if len(list(bitsOf([]int{a, b, c, d}))) < 4 {
		refused(t, n == 0, e, api.ErrArg, o.p, a, b, c, d)
	} else if e != api.OK || n != o.crossOf(a, b, c, d) {
		t.Error(o.p, a, b, c, d, n, e)
	}
}

// P3.14
func TestCrossIsKept(t *testing.T) {
	for _, o := range worlds()[1:] {
		for k, m := range o.maps(500) {
			on := list(o.lines[k%len(o.lines)])
			a, b, c, d := on[k%2], on[2], on[1-k%2], on[3+k%(o.p-2)]
			before, e := arcs.Cross(o.p, a, b, c, d)
			if e != api.OK {
				t.Fatal(o.p, a, b, c, d, e)
			}
			moved := [4]int{a, b, c, d}
			for i, x := range moved {
				moved[i], _ = arcs.Apply(o.p, m, x)
			}
			after, e := arcs.Cross(o.p, moved[0], moved[1], moved[2], moved[3])
			if after != before || e != api.OK {
				t.Error(o.p, m, a, b, c, d, before, moved, after, e)
			}
		}
	}
}

// P3.9: for 2 no line has four points.
func TestCrossErrors(t *testing.T) {
	for _, p := range notPrimes() {
		n, e := arcs.Cross(p, 0, 1, 2, 3)
		refused(t, n == 0, e, api.ErrArg, p)
	}
	for _, o := range worlds() {
		on := list(o.lines[0])
		for i := range 4 {
			for _, n := range notNumbers(o.p) {
				x := [4]int{1, 2, 3, 4}
				x[i] = n
				got, e := arcs.Cross(o.p, x[0], x[1], x[2], x[3])
				refused(t, got == 0, e, api.ErrArg, o.p, x)
			}
		}
		for x := range o.points { // three on the line, one elsewhere
			if o.lines[0]>>x&1 == 1 {
				continue
			}
			for _, f := range [][4]int{{x, on[0], on[1], on[2]}, {on[0], x, on[1], on[2]}, {on[0], on[1], x, on[2]}, {on[0], on[1], on[2], x}} {
				got, e := arcs.Cross(o.p, f[0], f[1], f[2], f[3])
				refused(t, got == 0, e, api.ErrArg, o.p, f)
			}
		}
	}
	for n := range 7 * 7 * 7 * 7 {
		got, e := arcs.Cross(2, n/343, n/49%7, n/7%7, n%7)
		refused(t, got == 0, e, api.ErrArg, n)
	}
}
