package arcs_test

import (
	"math"
	"math/bits"
	"slices"
	"testing"

	"corsage/api"
	"corsage/arcs"
)

// P3.6
func TestCurveExamples(t *testing.T) {
	c := [6]int{0, 0, 1, 1, 0, 0}
	// z^2 + x y over 3: 0 1 0, 1 0 0, 1 2 1 and 1 2 2
	if l, e := arcs.Curve(3, c); !slices.Equal(l, []int{1, 4, 11, 12}) || e != api.OK {
		t.Error(l, e)
	}
	// x^2: the line 1 0 0
	if l, e := arcs.Curve(2, [6]int{1, 0, 0, 0, 0, 0}); !slices.Equal(l, []int{0, 1, 2}) || e != api.OK {
		t.Error(l, e)
	}
	// x^2 + y^2 over 3: just one point
	if l, e := arcs.Curve(3, [6]int{1, 1, 0, 0, 0, 0}); !slices.Equal(l, []int{0}) || e != api.OK {
		t.Error(l, e)
	}
	l, _ := arcs.Curve(5, c)
	if d, e := arcs.Through(5, l[1:]); d != c || e != api.OK {
		t.Error(d, e)
	}
}

// P3.6: all curves, those of lines too.
func TestCurve(t *testing.T) {
	for _, o := range worlds() {
		curves, sets := o.conics()
		for i, c := range curves {
			if l, e := arcs.Curve(o.p, c); e != api.OK || !slices.Equal(l, list(sets[i])) {
				t.Error(o.p, c, l, list(sets[i]), e)
			}
		}
	}
}

// P3.6
func TestCurveErrors(t *testing.T) {
	for _, p := range notPrimes() {
		l, e := arcs.Curve(p, [6]int{0, 0, 1, 1, 0, 0})
		refused(t, len(l) == 0, e, api.ErrArg, p)
	}
	for _, p := range primes() {
		bad := [][6]int{{}, {p, 0, 0, 0, 0, 0}, {1, p, 0, 0, 0, 0}, {0, 0, 0, 0, 1, -1}, {-1, 0, 0, 0, 0, 0}, {p + 1, 0, 0, 0, 0, 0}, {p, 1, 0, 0, 0, 0},
			{0, 0, 0, 0, 0, p}, {0, 0, 0, 0, 0, 2}, {1, math.MaxInt}, {math.MinInt, 1}, {1, 0, 0, 0, 0, math.MinInt}, {1, 0, 0, 0, 0, 7 * p}}
		for k := 2; k < p; k++ {
			bad = append(bad, [6]int{k, 1, 1, 1, 1, 1}, [6]int{0, 0, k, 0, 0, 1})
		}
		for _, c := range bad {
			l, e := arcs.Curve(p, c)
			refused(t, len(l) == 0, e, api.ErrArg, p, c)
		}
	}
}

// P3.6: of all arcs of five points over 5, and many over 7, the one curve that has them.
func TestThrough(t *testing.T) {
	for _, p := range []int{5, 7} {
		o := newWorld(p)
		curves, sets := o.conics()
		tried := 0
		o.arcs(func(set uint64) bool {
			if bits.OnesCount64(set) < 5 {
				return true
			}
			if tried++; p == 7 && tried%997 != 0 {
				return false
			}
			c, e := arcs.Through(p, list(set))
			found := 0
			for i, on := range sets {
				if set&^on == 0 {
					if found++; curves[i] != c {
						t.Error(p, list(set), c, curves[i])
					}
				}
			}
			if e != api.OK || found != 1 {
				t.Error(p, list(set), c, found, e)
			}
			return false
		})
		if tried < 18600 {
			t.Error(p, tried)
		}
	}
}

// P3.6: ErrArg for what is no set or has not five points, then ErrState for what is no arc.
func TestThroughErrors(t *testing.T) {
	for _, o := range worlds() {
		for _, set := range o.sets(20) {
			c, e := arcs.Through(o.p, list(set))
			switch {
			case bits.OnesCount64(set) != 5:
				refused(t, c == [6]int{}, e, api.ErrArg, o.p, list(set))
			case !o.isArc(set):
				refused(t, c == [6]int{}, e, api.ErrState, o.p, list(set))
			case e != api.OK:
				t.Error(o.p, list(set), e)
			}
		}
		// four on a line, all five on it, or three on it for each place of the two others
		for _, on := range o.lines {
			for x := range o.points {
				for y := range x {
					set := bitsOf(append(list(on)[:3], x, y))
					if bits.OnesCount64(set) == 5 {
						c, e := arcs.Through(o.p, list(set))
						refused(t, c == [6]int{}, e, api.ErrState, o.p, list(set))
					}
				}
			}
		}
	}
	unusual(t, func(p int, set []int) (bool, api.Errno) {
		c, e := arcs.Through(p, set)
		return c == [6]int{}, e
	})
}

// P3.11 (Segre): for odd p, the arcs of p + 1 points are just the sets of p + 1 points of curves no three of which are on a line; P3.12: any five of their points give the curve.
func TestGreatArcsAreCurves(t *testing.T) {
	for _, o := range worlds()[1:] {
		ofCurves := map[uint64][6]int{}
		curves, sets := o.conics()
		for i, set := range sets {
			points, e1 := arcs.Curve(o.p, curves[i])
			ok, e2 := arcs.Arc(o.p, points)
			if e1 != api.OK || e2 != api.OK || ok != o.isArc(set) {
				t.Error(o.p, curves[i], points, ok, e1, e2)
			}
			if ok && len(points) == o.p+1 {
				ofCurves[set] = curves[i]
				through(t, o.p, curves[i], points)
			}
		}
		great := 0
		o.arcs(func(set uint64) bool {
			if bits.OnesCount64(set) == o.p+1 {
				great++
				if _, found := ofCurves[set]; !found {
					t.Error(o.p, list(set))
				}
			}
			return true
		})
		// there are p^5 - p^2 of them
		if p := o.p; great != p*p*p*p*p-p*p || len(ofCurves) != great && p > 3 {
			t.Error(p, great, len(ofCurves))
		}
	}
}

// through checks that the first five points and the last five of an arc of a curve's points give the curve.
func through(t *testing.T, p int, c [6]int, points []int) {
	t.Helper()
	if p < 5 {
		return
	}
	for _, five := range [][]int{points[:5], points[len(points)-5:]} {
		if d, e := arcs.Through(p, five); d != c || e != api.OK {
			t.Error(p, five, d, c, e)
		}
	}
}

// P3.13 (Pascal)
func TestSixPointsOfCurves(t *testing.T) {
	for _, p := range []int{5, 7} {
		o := newWorld(p)
		_, sets := o.conics()
		d := dice{seed: 13}
		for k, set := range sets {
			points := list(set)
			if !o.isArc(set) || len(points) < 6 || p == 7 && k%10 != 0 {
				continue
			}
			for range 2 {
				for i := range points { // shuffled, so that the six are in any order
					k := i + d.below(len(points)-i)
					points[i], points[k] = points[k], points[i]
				}
				pascal(t, p, [6]int(points))
			}
		}
	}
}

// pascal checks that the lines of the opposite pairs of the six points meet on one line.
func pascal(t *testing.T, p int, six [6]int) {
	t.Helper()
	var met [3]int
	for i := range met {
		l, e1 := arcs.Join(p, six[i], six[i+1])
		m, e2 := arcs.Join(p, six[i+3], six[(i+4)%6])
		x, e3 := arcs.Meet(p, l, m)
		if e1 != api.OK || e2 != api.OK || e3 != api.OK {
			t.Fatal(p, six, e1, e2, e3)
		}
		met[i] = x
	}
	for line := range p*p + p + 1 {
		on := 0
		for _, x := range met {
			if ok, _ := arcs.On(p, x, line); ok {
				on++
			}
		}
		if on == 3 {
			return
		}
	}
	t.Error(p, six, met)
}
