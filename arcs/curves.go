package arcs

import "corsage/api"

// isCurve reports whether c is a curve: it is not 0, and its own multiple whose first number that is not 0 is 1.
func (l *plane) isCurve(c [6]int) bool {
	return c != [6]int{} && c == l.curve(c)
}

// curve returns the multiple of c whose first number that is not 0 is 1.
func (l *plane) curve(c [6]int) [6]int {
	l.multiply(l.factor(c[:]...), c[:])
	return c
}

// value returns what the left side of the curve c is at x.
func value(c [6]int, x [3]int) int {
	squares := [3]int{x[0] * x[0], x[1] * x[1], x[2] * x[2]}
	mixed := [3]int{x[0] * x[1], x[0] * x[2], x[1] * x[2]}
	return dot([3]int{c[0], c[1], c[2]}, squares) + dot([3]int{c[3], c[4], c[5]}, mixed)
}

// pair returns the six numbers of the curve that is made of two lines.
func pair(l, m [3]int) [6]int {
	return [6]int{
		l[0] * m[0], l[1] * m[1], l[2] * m[2],
		l[0]*m[1] + l[1]*m[0], l[0]*m[2] + l[2]*m[0], l[1]*m[2] + l[2]*m[1],
	}
}

// Curve returns all points of the curve c, rising.
func Curve(p int, c [6]int) ([]int, api.Errno) {
	l, e := open(p)
	if e != api.OK {
		return nil, e
	}
	if !l.isCurve(c) {
		return nil, api.ErrArg
	}
	var all []int
	for n, x := range l.points {
		if l.mod(value(c, x)) == 0 {
			all = append(all, n)
		}
	}
	return all, api.OK
}

// Through returns the curve that has all five points of set.
func Through(p int, set []int) ([6]int, api.Errno) {
	l, e := openSet(p, set)
	if e != api.OK {
		return [6]int{}, e
	}
	if len(set) != 5 {
		return [6]int{}, api.ErrArg
	}
	if !l.noThree(set...) {
		return [6]int{}, api.ErrState
	}
	var x [5][3]int
	for i, n := range set {
		x[i] = l.points[n]
	}
	// Both pairs of lines have the first four points; neither has the last one, so neither value is 0.
	f := pair(cross(x[0], x[1]), cross(x[2], x[3]))
	g := pair(cross(x[0], x[2]), cross(x[1], x[3]))
	atF, atG := l.mod(value(f, x[4])), l.mod(value(g, x[4]))
	var c [6]int
	for i := range c {
		c[i] = atG*f[i] - atF*g[i]
	}
	return l.curve(c), api.OK
}
