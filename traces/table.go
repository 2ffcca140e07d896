package traces

import (
	"slices"

	"corsage/api"
)

// The table is found in the sums of elements in which all elements of a class occur equally often modulo q: such a sum is a slice of how often, one number for each class.
// The sum of nothing but element 0 falls into parts, one for each function of the table, that every class multiplies by a number.

// ways returns, for the classes e and d, how many elements of the class c take some element of d to the first one of e.
// This matrix multiplies a sum by all elements of c.
func (x *group) ways(c int) [][]int {
	m := make([][]int, len(x.classes))
	for e, class := range x.classes {
		m[e] = make([]int, len(x.classes))
		for _, a := range x.classes[c] {
			b := x.times[x.inverse(a)][class[0]]
			m[e][x.classOf[b]]++
		}
	}
	return m
}

// less returns the product of the matrix m and v, less y times v.
func (x *group) less(m [][]int, v []int, y int) []int {
	rest := make([]int, len(v))
	for e, row := range m {
		sum := (x.q - y) * v[e]
		for d, n := range row {
			sum += n * v[d]
		}
		rest[e] = sum % x.q
	}
	return rest
}

// part returns the part of v that the matrix m multiplies by y: what is left when the parts for all other numbers are taken away.
func (x *group) part(m [][]int, v []int, y int) []int {
	for z := range x.q {
		if z != y {
			v = x.less(m, v, z)
		}
	}
	// The part has been multiplied by all y - z, whose product is -1 modulo any prime.
	for e, n := range v {
		v[e] = (x.q - n) % x.q
	}
	return v
}

// parts returns the parts into which the sum of element 0 falls.
func (x *group) parts() [][]int {
	one := make([]int, len(x.classes))
	one[0] = 1
	all := [][]int{one}
	for c := 1; c < len(x.classes) && len(all) < len(x.classes); c++ {
		m := x.ways(c)
		var finer [][]int
		for _, v := range all {
			for y := range x.q {
				if p := x.part(m, v, y); slices.Max(p) > 0 {
					finer = append(finer, p)
				}
			}
		}
		all = finer
	}
	return all
}

// function returns the function t of the table to which the part v belongs: v has t's degree times t, divided by the number of elements, at the inverse classes.
func (x *group) function(v []int) []int {
	n := len(x.moves)
	degree := 1
	for degree*degree%x.q != n*v[0]%x.q {
		degree++
	}
	t := make([]int, len(v))
	for c := range t {
		t[c] = x.divide(n*v[x.inverseClass(c)], degree)
	}
	return t
}

// table returns the table.
func (x *group) table() [][]int {
	var all [][]int
	for _, v := range x.parts() {
		all = append(all, x.function(v))
	}
	// The degrees come first in the functions.
	slices.SortFunc(all, slices.Compare[[]int])
	return all
}

// product returns the product of the functions f and h.
func (x *group) product(f, h []int) int {
	sum := 0
	for c, class := range x.classes {
		sum += len(class) * f[c] * h[x.inverseClass(c)]
	}
	return x.divide(sum, len(x.moves))
}

// isFunction reports whether f is a function of x.
func (x *group) isFunction(f []int) bool {
	if len(f) != len(x.classes) {
		return false
	}
	return slices.Min(f) >= 0 && slices.Max(f) < x.q
}

// openWith returns the group of the generators g, of which these must be functions.
func openWith(g [][]int, functions ...[]int) (*group, api.Errno) {
	x, e := open(g)
	if e != api.OK {
		return nil, e
	}
	for _, f := range functions {
		if !x.isFunction(f) {
			return nil, api.ErrArg
		}
	}
	return x, api.OK
}

// Table returns the table.
func Table(g [][]int) ([][]int, api.Errno) {
	x, e := open(g)
	if e != api.OK {
		return nil, e
	}
	return x.table(), api.OK
}

// Product returns the product of two functions.
func Product(g [][]int, f, h []int) (int, api.Errno) {
	x, e := openWith(g, f, h)
	if e != api.OK {
		return 0, e
	}
	return x.product(f, h), api.OK
}

// Split returns the product of f with each function of the table.
func Split(g [][]int, f []int) ([]int, api.Errno) {
	x, e := openWith(g, f)
	if e != api.OK {
		return nil, e
	}
	var all []int
	for _, t := range x.table() {
		all = append(all, x.product(t, f))
	}
	return all, api.OK
}

// Kernel returns the classes at which f, one of the table, has its value at class 0.
func Kernel(g [][]int, f []int) ([]int, api.Errno) {
	x, e := openWith(g, f)
	if e != api.OK {
		return nil, e
	}
	if !slices.ContainsFunc(x.table(), func(t []int) bool { return slices.Equal(t, f) }) {
		return nil, api.ErrArg
	}
	var all []int
	for c, y := range f {
		if y == f[0] {
			all = append(all, c)
		}
	}
	return all, api.OK
}
