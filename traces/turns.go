package traces

import "corsage/api"

// maxColours is the greatest number of colours of Bouquets.
const maxColours = 8

// stays returns how many numbers element a leaves where they are.
func (x *group) stays(a int) int {
	count := 0
	for i := range x.d {
		if x.moves[a][i] == i {
			count++
		}
	}
	return count
}

// orbit returns the numbers to which elements take i.
func (x *group) orbit(i int) []int {
	var met [maxMoved]bool
	for _, m := range x.moves {
		met[m[i]] = true
	}
	var all []int
	for j, is := range met {
		if is {
			all = append(all, j)
		}
	}
	return all
}

// cycles returns how many cycles element a has.
func (x *group) cycles(a int) int {
	var met [maxMoved]bool
	count := 0
	for i := range x.d {
		if met[i] {
			continue
		}
		count++
		for j := i; !met[j]; j = x.moves[a][j] {
			met[j] = true
		}
	}
	return count
}

// power returns n to the power of k.
func power(n, k int) int {
	p := 1
	for range k {
		p *= n
	}
	return p
}

// Fixed returns the function that has at each class how many numbers its elements leave where they are.
func Fixed(g [][]int) ([]int, api.Errno) {
	x, e := open(g)
	if e != api.OK {
		return nil, e
	}
	f := make([]int, len(x.classes))
	for c, class := range x.classes {
		f[c] = x.stays(class[0])
	}
	return f, api.OK
}

// Orbits returns the sets of numbers that elements take to each other.
func Orbits(g [][]int) ([][]int, api.Errno) {
	x, e := open(g)
	if e != api.OK {
		return nil, e
	}
	var all [][]int
	for i := range x.d {
		if l := x.orbit(i); l[0] == i {
			all = append(all, l)
		}
	}
	return all, api.OK
}

// Bouquets returns in how many ways the numbers can be coloured.
func Bouquets(g [][]int, colours int) (int, api.Errno) {
	if colours < 0 || colours > maxColours {
		return 0, api.ErrArg
	}
	x, e := open(g)
	if e != api.OK {
		return 0, e
	}
	// Each way is a set of colourings, and each element leaves those that have one colour in each of its cycles: on average, as many as there are ways.
	sum := 0
	for a := range x.moves {
		sum += power(colours, x.cycles(a))
	}
	return sum / len(x.moves), api.OK
}
