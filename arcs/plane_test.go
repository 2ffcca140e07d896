package arcs_test

import (
	"math/bits"
	"slices"
	"testing"

	"corsage/api"
	"corsage/arcs"
)

// P3.1, P3.2
func TestPlaneExamples(t *testing.T) {
	want := [][3]int{{0, 0, 1}, {0, 1, 0}, {0, 1, 1}, {1, 0, 0}, {1, 0, 1}, {1, 1, 0}, {1, 1, 1}}
	if l, e := arcs.Points(2); !slices.Equal(l, want) || e != api.OK {
		t.Error(l, e)
	}
	if l, e := arcs.Join(2, 0, 1); l != 3 || e != api.OK {
		t.Error(l, e)
	}
	if x, e := arcs.Meet(2, 0, 1); x != 3 || e != api.OK {
		t.Error(x, e)
	}
	if ok, e := arcs.On(3, 1, 0); !ok || e != api.OK {
		t.Error(ok, e)
	}
	if ok, e := arcs.On(3, 0, 0); ok || e != api.OK {
		t.Error(ok, e)
	}
	// 0 1 2 and 1 2 0 over 5: the line 1 2 4
	if l, e := arcs.Join(5, 3, 16); l != 20 || e != api.OK {
		t.Error(l, e)
	}
}

// P3.1
func TestPoints(t *testing.T) {
	for _, o := range worlds() {
		for range 2 {
			l, e := arcs.Points(o.p)
			if e != api.OK || len(l) != o.p*o.p+o.p+1 || !slices.Equal(l, o.points) {
				t.Error(o.p, l, e)
			}
			clear(l) // the next call has to return new memory
		}
	}
	for _, p := range notPrimes() {
		l, e := arcs.Points(p)
		refused(t, len(l) == 0, e, api.ErrArg, p)
	}
}

// P3.1, P3.10
func TestOn(t *testing.T) {
	for _, o := range worlds() {
		ofPoint := make([]int, len(o.points))
		for l, set := range o.lines {
			ofLine := 0
			for x := range o.points {
				ok, e := arcs.On(o.p, x, l)
				if e != api.OK || ok != (set>>x&1 == 1) {
					t.Error(o.p, x, l, ok, e)
				}
				if ok {
					ofLine++
					ofPoint[x]++
				}
			}
			if ofLine != o.p+1 {
				t.Error(o.p, l, ofLine)
			}
		}
		for x, n := range ofPoint {
			if n != o.p+1 {
				t.Error(o.p, x, n)
			}
		}
	}
}

// P3.2, P3.10: Join is the one line with both points, Meet the one point on both lines.
func TestJoinAndMeet(t *testing.T) {
	for _, o := range worlds() {
		for a := range o.points {
			for b := range o.points {
				if a == b {
					continue
				}
				var joined []int
				for l, set := range o.lines {
					if set>>a&1 == 1 && set>>b&1 == 1 {
						joined = append(joined, l)
					}
				}
				if l, e := arcs.Join(o.p, a, b); e != api.OK || !slices.Equal(joined, []int{l}) {
					t.Error(o.p, a, b, l, joined, e)
				}
				both := o.lines[a] & o.lines[b]
				if x, e := arcs.Meet(o.p, a, b); e != api.OK || bits.OnesCount64(both) != 1 || both>>x&1 != 1 {
					t.Error(o.p, a, b, x, both, e)
				}
			}
		}
	}
}

// P3.1, P3.2
func TestPlaneErrors(t *testing.T) {
	try := func(p, a, b int) {
		t.Helper()
		ok, e := arcs.On(p, a, b)
		refused(t, !ok, e, api.ErrArg, p, a, b)
		l, e := arcs.Join(p, a, b)
		refused(t, l == 0, e, api.ErrArg, p, a, b)
		x, e := arcs.Meet(p, a, b)
		refused(t, x == 0, e, api.ErrArg, p, a, b)
	}
	for _, p := range notPrimes() {
		try(p, 0, 1)
		try(p, 1, 0)
	}
	for _, p := range primes() {
		for _, n := range notNumbers(p) {
			try(p, n, 1)
			try(p, 1, n)
			try(p, n, n)
		}
		for n := range p*p + p + 1 {
			l, e := arcs.Join(p, n, n)
			refused(t, l == 0, e, api.ErrArg, p, n)
			x, e := arcs.Meet(p, n, n)
			refused(t, x == 0, e, api.ErrArg, p, n)
		}
	}
}
