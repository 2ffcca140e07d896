package arcs

import (
	"slices"

	"corsage/api"
)

// Matrix is a map of the plane.
type Matrix [3][3]int

// isMap reports whether m is a map: it is its own multiple whose first number that is not 0 is 1, and its determinant is not divisible by p.
func (l *plane) isMap(m Matrix) bool {
	return m == l.matrix(m) && l.mod(dot(m[0], cross(m[1], m[2]))) != 0
}

// matrix returns the multiple of m whose first number that is not 0 is 1.
func (l *plane) matrix(m Matrix) Matrix {
	k := l.factor(slices.Concat(m[0][:], m[1][:], m[2][:])...)
	for i := range m {
		l.multiply(k, m[i][:])
	}
	return m
}

// Apply returns the point to which the map m takes a point.
func Apply(p int, m Matrix, point int) (int, api.Errno) {
	l, e := open(p, point)
	if e != api.OK {
		return 0, e
	}
	if !l.isMap(m) {
		return 0, api.ErrArg
	}
	x := l.points[point]
	return l.number([3]int{dot(m[0], x), dot(m[1], x), dot(m[2], x)}), api.OK
}

// sides returns the lines of the second and third, third and first, and first and second point of a frame, and what they give with its fourth point.
func (l *plane) sides(frame [4]int) (lines [3][3]int, fourth [3]int) {
	for i := range lines {
		lines[i] = cross(l.points[frame[(i+1)%3]], l.points[frame[(i+2)%3]])
		fourth[i] = dot(lines[i], l.points[frame[3]])
	}
	return lines, fourth
}

// Frame returns the map that takes the points of the frame a, in order, to those of the frame b.
func Frame(p int, a, b [4]int) (Matrix, api.Errno) {
	l, e := open(p, slices.Concat(a[:], b[:])...)
	if e != api.OK {
		return Matrix{}, e
	}
	if !l.noThree(a[:]...) || !l.noThree(b[:]...) {
		return Matrix{}, api.ErrState
	}
	lines, fourth := l.sides(a)
	_, wanted := l.sides(b)
	// Line i of a is 0 at its first three points but point i: so any sum of products of point i of b and line i of a takes these three as it should.
	// At the fourth point the lines are what fourth says; point i of b has to come there as often as wanted says.
	var m Matrix
	for i, line := range lines {
		k := l.mod(wanted[i]) * l.inverse(fourth[i])
		for row, n := range l.points[b[i]] {
			for column := range line {
				m[row][column] += k * n * line[column]
			}
		}
	}
	return l.matrix(m), api.OK
}

// Cross returns u t divided by v s, with c = u a + v b and d = s a + t b.
func Cross(p int, a, b, c, d int) (int, api.Errno) {
	l, e := open(p, a, b, c, d)
	if e != api.OK {
		return 0, e
	}
	if !differ(a, b, c, d) || !l.inRow(a, b, c, d) {
		return 0, api.ErrArg
	}
	u, v := l.parts(a, b, c)
	s, t := l.parts(a, b, d)
	return u * t * l.inverse(v*s) % p, api.OK
}

// parts returns the numbers u and v with c = u a + v b, for points a, b and c that are on one line, a and b different.
func (l *plane) parts(a, b, c int) (u, v int) {
	x, y, z := l.points[a], l.points[b], l.points[c]
	line, zy, xz := cross(x, y), cross(z, y), cross(x, z)
	// z with y is u times x with y, and x with z is v times that: any number of the line that is not 0 tells.
	i := slices.IndexFunc(line[:], func(n int) bool { return l.mod(n) != 0 })
	k := l.inverse(line[i])
	return l.mod(zy[i] * k), l.mod(xz[i] * k)
}
