package arcs

import (
	"slices"

	"corsage/api"
)

// plane is the plane over p: its points in their order, which are the triples of its lines as well.
type plane struct {
	p      int
	points [][3]int
}

// open returns the plane over p, if the numbers are those of points or lines in it.
func open(p int, numbers ...int) (*plane, api.Errno) {
	switch p {
	case 2, 3, 5, 7:
	default:
		return nil, api.ErrArg
	}
	l := newPlane(p)
	for _, n := range numbers {
		if n < 0 || n >= len(l.points) {
			return nil, api.ErrArg
		}
	}
	return l, api.OK
}

// newPlane returns the plane over p.
func newPlane(p int) *plane {
	points := [][3]int{{0, 0, 1}}
	for z := range p {
		points = append(points, [3]int{0, 1, z})
	}
	for y := range p {
		for z := range p {
			points = append(points, [3]int{1, y, z})
		}
	}
	return &plane{p, points}
}

// differ reports whether no two of the numbers are the same.
func differ(numbers ...int) bool {
	for i, n := range numbers {
		if slices.Contains(numbers[:i], n) {
			return false
		}
	}
	return true
}

// dot returns the sum of the products of the numbers of x and y.
func dot(x, y [3]int) int {
	return x[0]*y[0] + x[1]*y[1] + x[2]*y[2]
}

// cross returns a triple whose dot with x and with y is 0; it is not 0 modulo p if x and y are no multiples of each other.
func cross(x, y [3]int) [3]int {
	return [3]int{x[1]*y[2] - x[2]*y[1], x[2]*y[0] - x[0]*y[2], x[0]*y[1] - x[1]*y[0]}
}

// mod returns n modulo p.
func (l *plane) mod(n int) int {
	return (n%l.p + l.p) % l.p
}

// inverse returns 1 divided by n, modulo p; 0 if n is divisible by p.
func (l *plane) inverse(n int) int {
	for k := range l.p {
		if k*l.mod(n)%l.p == 1 {
			return k
		}
	}
	return 0
}

// factor returns what the numbers are multiplied by to make the first one that is not 0 modulo p a 1; 0 if there is none.
func (l *plane) factor(numbers ...int) int {
	for _, n := range numbers {
		if l.mod(n) != 0 {
			return l.inverse(n)
		}
	}
	return 0
}

// multiply multiplies the numbers by k, modulo p.
func (l *plane) multiply(k int, numbers []int) {
	for i, n := range numbers {
		numbers[i] = k * l.mod(n) % l.p
	}
}

// number returns the number of the point that is a multiple of x, which is not 0 modulo p.
func (l *plane) number(x [3]int) int {
	l.multiply(l.factor(x[:]...), x[:])
	return slices.Index(l.points, x)
}

// on reports whether a point is on a line.
func (l *plane) on(point, line int) bool {
	return l.mod(dot(l.points[point], l.points[line])) == 0
}

// inRow reports whether all the others are on the line of the points a and b, or a and b are the same.
func (l *plane) inRow(a, b int, others ...int) bool {
	line := cross(l.points[a], l.points[b])
	for _, x := range others {
		if l.mod(dot(line, l.points[x])) != 0 {
			return false
		}
	}
	return true
}
