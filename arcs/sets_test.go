package arcs_test

import (
	"math/bits"
	"slices"
	"testing"

	"corsage/api"
	"corsage/arcs"
)

// P3.3, P3.4, P3.5, P3.7
func TestSetExamples(t *testing.T) {
	if l, e := arcs.Grow(2, nil); !slices.Equal(l, []int{0, 1, 3, 6}) || e != api.OK {
		t.Error(l, e)
	}
	if l, e := arcs.Grow(2, []int{6}); !slices.Equal(l, []int{0, 1, 3, 6}) || e != api.OK {
		t.Error(l, e)
	}
	if ok, e := arcs.Arc(2, []int{0, 1, 2}); ok || e != api.OK {
		t.Error(ok, e)
	}
	if ok, e := arcs.Arc(7, nil); !ok || e != api.OK {
		t.Error(ok, e)
	}
	if l, e := arcs.Free(2, []int{0, 1}); !slices.Equal(l, []int{3, 4, 5, 6}) || e != api.OK {
		t.Error(l, e)
	}
	if l, e := arcs.Free(2, []int{3}); !slices.Equal(l, []int{0, 1, 2, 4, 5, 6}) || e != api.OK {
		t.Error(l, e)
	}
	if l, e := arcs.Free(2, nil); !slices.Equal(l, []int{0, 1, 2, 3, 4, 5, 6}) || e != api.OK {
		t.Error(l, e)
	}
	// the lines through 0 0 1 are 1, 3 and 5; 3 is on 0 1 0, 1 on 1 0 0
	if l, e := arcs.Tangents(2, []int{0, 1, 3}, 0); !slices.Equal(l, []int{5}) || e != api.OK {
		t.Error(l, e)
	}
	// neither 0 0 1 nor 0 1 0 is on 0 1 1 and 1 1 1
	if l, e := arcs.Miss(2, []int{0, 1}); !slices.Equal(l, []int{2, 6}) || e != api.OK {
		t.Error(l, e)
	}
}

// P3.3
func TestArcAndFree(t *testing.T) {
	for _, o := range worlds() {
		for _, set := range o.sets(20) {
			points := list(set)
			ok, e := arcs.Arc(o.p, points)
			if e != api.OK || ok != o.isArc(set) {
				t.Error(o.p, points, ok, e)
			}
			free, e := arcs.Free(o.p, points)
			switch {
			case !o.isArc(set):
				refused(t, len(free) == 0, e, api.ErrState, o.p, points)
			case e != api.OK || !slices.Equal(free, o.free(set)):
				t.Error(o.p, points, free, e)
			}
			if bitsOf(points) != set {
				t.Error(o.p, points)
			}
		}
	}
	unusual(t, func(p int, set []int) (bool, api.Errno) {
		ok, e := arcs.Arc(p, set)
		return !ok, e
	})
	unusual(t, func(p int, set []int) (bool, api.Errno) {
		free, e := arcs.Free(p, set)
		return len(free) == 0, e
	})
}

// P3.3: sets that are arcs, of every number of points.
func TestArcsAreArcs(t *testing.T) {
	for _, o := range worlds() {
		sizes := 0
		for _, set := range o.some(997) {
			points := list(set)
			sizes |= 1 << len(points)
			ok, e1 := arcs.Arc(o.p, points)
			free, e2 := arcs.Free(o.p, points)
			if !ok || e1 != api.OK || e2 != api.OK || !slices.Equal(free, o.free(set)) {
				t.Error(o.p, points, ok, free, e1, e2)
			}
		}
		if o.p <= 3 && sizes != 31 {
			t.Error(o.p, sizes)
		}
	}
}

// P3.4, P3.11: no arc has more points, found by making all of them.
func TestGreatest(t *testing.T) {
	for _, o := range worlds() {
		most := 0
		o.arcs(func(set uint64) bool {
			most = max(most, bits.OnesCount64(set))
			return true
		})
		formula := o.p + 1
		if o.p == 2 {
			formula = 4
		}
		if n, e := arcs.Greatest(o.p); n != most || n != formula || e != api.OK {
			t.Error(o.p, n, most, e)
		}
	}
	for _, p := range notPrimes() {
		n, e := arcs.Greatest(p)
		refused(t, n == 0, e, api.ErrArg, p)
	}
}

// P3.4: Grow adds the first free point again and again, returns a set, and leaves its argument as it is.
func TestGrow(t *testing.T) {
	for _, o := range worlds() {
		for _, set := range o.some(997) {
			points := list(set)
			want := set
			for free := o.free(want); len(free) > 0; free = o.free(want) {
				want |= 1 << free[0]
			}
			roomy := append(make([]int, 0, 20), points...)
			got, e := arcs.Grow(o.p, roomy)
			if e != api.OK || !slices.Equal(got, list(want)) {
				t.Error(o.p, points, got, list(want), e)
			}
			clear(got)
			if !slices.Equal(roomy, points) || !slices.Equal(roomy[:20][len(points):], make([]int, 20-len(points))) {
				t.Error(o.p, points, roomy[:20])
			}
		}
		for _, set := range o.sets(2) {
			if !o.isArc(set) {
				got, e := arcs.Grow(o.p, list(set))
				refused(t, len(got) == 0, e, api.ErrState, o.p, list(set))
			}
		}
	}
	unusual(t, func(p int, set []int) (bool, api.Errno) {
		grown, e := arcs.Grow(p, set)
		return len(grown) == 0, e
	})
}

// P3.5: of every set, arc or not.
func TestTangents(t *testing.T) {
	for _, o := range worlds() {
		for _, set := range o.sets(1) {
			points := list(set)
			for x := range o.points {
				got, e := arcs.Tangents(o.p, points, x)
				if set>>x&1 == 0 {
					refused(t, len(got) == 0, e, api.ErrArg, o.p, points, x)
					continue
				}
				var want []int
				for l, on := range o.lines {
					if on&set == 1<<x {
						want = append(want, l)
					}
				}
				if e != api.OK || !slices.Equal(got, want) {
					t.Error(o.p, points, x, got, want, e)
				}
			}
		}
		for _, x := range notNumbers(o.p) {
			for _, set := range [][]int{nil, {0}, {0, 1, 3}} {
				got, e := arcs.Tangents(o.p, set, x)
				refused(t, len(got) == 0, e, api.ErrArg, o.p, set, x)
			}
		}
	}
	unusual(t, func(p int, set []int) (bool, api.Errno) {
		tangents, e := arcs.Tangents(p, set, 0)
		return len(tangents) == 0, e
	})
}

// P3.11
func TestTangentsOfArcs(t *testing.T) {
	for _, o := range worlds() {
		for _, set := range o.some(499) {
			for _, x := range list(set) {
				got, e := arcs.Tangents(o.p, list(set), x)
				if e != api.OK || len(got) != o.p+2-bits.OnesCount64(set) {
					t.Error(o.p, list(set), x, got, e)
				}
			}
		}
	}
}

// P3.7, P3.15: Blocks is true if Miss is empty and no line is whole; then there are more than p + the square root of p points.
func TestBlocksAndMiss(t *testing.T) {
	for _, o := range worlds() {
		blocking := 0
		for _, set := range o.sets(20) {
			if !blocks(t, o, set) {
				continue
			}
			blocking++
			if n := bits.OnesCount64(set) - o.p; n < 0 || n*n <= o.p {
				t.Error(o.p, list(set))
			}
		}
		if (o.p == 2) != (blocking == 0) {
			t.Error(o.p, blocking)
		}
	}
	unusual(t, func(p int, set []int) (bool, api.Errno) {
		ok, e := arcs.Blocks(p, set)
		return !ok, e
	})
	unusual(t, func(p int, set []int) (bool, api.Errno) {
		miss, e := arcs.Miss(p, set)
		return len(miss) == 0, e
	})
}

// blocks checks Blocks and Miss of a set, and returns whether it is a blocking set.
func blocks(t *testing.T, o *world, set uint64) bool {
	t.Helper()
	var want []int
	whole := false
	for l, on := range o.lines {
		if on&set == 0 {
			want = append(want, l)
		}
		whole = whole || on&set == on
	}
	miss, e1 := arcs.Miss(o.p, list(set))
	ok, e2 := arcs.Blocks(o.p, list(set))
	if e1 != api.OK || e2 != api.OK || !slices.Equal(miss, want) || ok != (len(want) == 0 && !whole) {
		t.Error(o.p, list(set), ok, miss, want, e1, e2)
	}
	return ok
}

// P3.7, P3.15: a line, all points, all but a line, all but one, and a triangle that blocks, but without any one of its points does not.
func TestBlockingSets(t *testing.T) {
	for _, o := range worlds() {
		all := uint64(1)<<len(o.points) - 1
		for l, on := range o.lines {
			if blocks(t, o, on) || blocks(t, o, all) || blocks(t, o, all&^on) || blocks(t, o, all&^(1<<l)) {
				t.Error(o.p, l)
			}
		}
		if o.p == 2 {
			continue
		}
		triangle := uint64(0)
		for n := range o.p {
			s := n * n % o.p
			for _, x := range [][3]int{{0, 1, -s}, {-s, 0, 1}, {1, -s, 0}} {
				triangle |= 1 << o.number(x)
			}
		}
		if bits.OnesCount64(triangle) != 3*(o.p+1)/2 || !blocks(t, o, triangle) {
			t.Error(o.p, list(triangle))
		}
		for _, x := range list(triangle) {
			if blocks(t, o, triangle&^(1<<x)) {
				t.Error(o.p, list(triangle), x)
			}
		}
	}
}
