package arcs

import (
	"slices"

	"corsage/api"
)

// openSet returns the plane over p, if set is a set of points in it.
func openSet(p int, set []int) (*plane, api.Errno) {
	l, e := open(p, set...)
	if e != api.OK {
		return nil, e
	}
	for i := 1; i < len(set); i++ {
		if set[i] <= set[i-1] {
			return nil, api.ErrArg
		}
	}
	return l, api.OK
}

// openArc returns the plane over p, if set is an arc in it.
func openArc(p int, set []int) (*plane, api.Errno) {
	l, e := openSet(p, set)
	if e != api.OK {
		return nil, e
	}
	if !l.noThree(set...) {
		return nil, api.ErrState
	}
	return l, api.OK
}

// count returns how many of the points are on a line.
func (l *plane) count(points []int, line int) int {
	n := 0
	for _, x := range points {
		if l.on(x, line) {
			n++
		}
	}
	return n
}

// noThree reports whether no three of the points are on one line; a point that is there twice counts as two.
func (l *plane) noThree(points ...int) bool {
	for line := range l.points {
		if l.count(points, line) > 2 {
			return false
		}
	}
	return true
}

// free returns all points that can be added to the arc set, rising.
func (l *plane) free(set []int) []int {
	var all []int
next:
	for x := range l.points {
		for i, a := range set {
			if x == a {
				continue next
			}
			for _, b := range set[:i] {
				if l.inRow(a, b, x) {
					continue next
				}
			}
		}
		all = append(all, x)
	}
	return all
}

// linesWith returns all lines that have just n of the points, rising.
func (l *plane) linesWith(n int, points []int) []int {
	var all []int
	for line := range l.points {
		if l.count(points, line) == n {
			all = append(all, line)
		}
	}
	return all
}

// Arc reports whether set is an arc.
func Arc(p int, set []int) (bool, api.Errno) {
	l, e := openSet(p, set)
	if e != api.OK {
		return false, e
	}
	return l.noThree(set...), api.OK
}

// Free returns all points that can be added to the arc set such that it stays one, rising.
func Free(p int, set []int) ([]int, api.Errno) {
	l, e := openArc(p, set)
	if e != api.OK {
		return nil, e
	}
	return l.free(set), api.OK
}

// Greatest returns how many points the greatest arcs have.
func Greatest(p int) (int, api.Errno) {
	if _, e := open(p); e != api.OK {
		return 0, e
	}
	// Each of the p + 1 lines through a point of an arc has at most one other point of it: so there are at most p + 2, and so many only where p is even.
	if p == 2 {
		return p + 2, api.OK
	}
	return p + 1, api.OK
}

// Grow returns the complete arc that comes if the first free point is added to set as long as there is one.
func Grow(p int, set []int) ([]int, api.Errno) {
	l, e := openArc(p, set)
	if e != api.OK {
		return nil, e
	}
	grown := slices.Clone(set)
	for free := l.free(grown); len(free) > 0; free = l.free(grown) {
		grown = append(grown, free[0])
	}
	slices.Sort(grown)
	return grown, api.OK
}

// Tangents returns all tangents of set at one of its points, rising.
func Tangents(p int, set []int, point int) ([]int, api.Errno) {
	l, e := openSet(p, set)
	if e != api.OK {
		return nil, e
	}
	if !slices.Contains(set, point) {
		return nil, api.ErrArg
	}
	elsewhere := func(line int) bool { return !l.on(point, line) }
	return slices.DeleteFunc(l.linesWith(1, set), elsewhere), api.OK
}

// Blocks reports whether set is a blocking set.
func Blocks(p int, set []int) (bool, api.Errno) {
	l, e := openSet(p, set)
	if e != api.OK {
		return false, e
	}
	return len(l.linesWith(0, set)) == 0 && len(l.linesWith(p+1, set)) == 0, api.OK
}

// Miss returns all lines without a point of set, rising.
func Miss(p int, set []int) ([]int, api.Errno) {
	l, e := openSet(p, set)
	if e != api.OK {
		return nil, e
	}
	return l.linesWith(0, set), api.OK
}
