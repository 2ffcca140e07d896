package traces

import "slices"

// group is a group of permutations of 0 to d - 1. Its elements are their numbers, its classes their indices.
type group struct {
	d       int
	moves   []move  // the elements
	times   [][]int // times[a][b] is the product of a and b
	classes [][]int // the elements of each class
	classOf []int   // the class of each element
	q       int     // its prime
}

// newGroup returns the group of these moves, which are in order.
func newGroup(d int, moves []move) *group {
	x := &group{d: d, moves: moves, times: multiply(moves)}
	x.classify()
	x.q = x.prime()
	return x
}

// multiply returns the numbers of the products of any two of these moves.
func multiply(moves []move) [][]int {
	number := map[move]int{}
	for a, m := range moves {
		number[m] = a
	}
	times := make([][]int, len(moves))
	for a, m := range moves {
		times[a] = make([]int, len(moves))
		for b, n := range moves {
			times[a][b] = number[m.after(n)]
		}
	}
	return times
}

// classify finds the classes.
func (x *group) classify() {
	x.classOf = slices.Repeat([]int{-1}, len(x.moves))
	for a := range x.moves {
		if x.classOf[a] >= 0 {
			continue
		}
		var class []int
		for b := range x.moves {
			if x.areAlike(a, b) {
				x.classOf[b] = len(x.classes)
				class = append(class, b)
			}
		}
		x.classes = append(x.classes, class)
	}
}

// areAlike reports whether a and b are of one class.
func (x *group) areAlike(a, b int) bool {
	for c := range x.moves {
		if x.times[c][a] == x.times[b][c] {
			return true
		}
	}
	return false
}

// inverse returns the element whose product with a moves nothing.
func (x *group) inverse(a int) int { return slices.Index(x.times[a], 0) }

// inverseClass returns the class of the inverse elements of the class c.
func (x *group) inverseClass(c int) int { return x.classOf[x.inverse(x.classes[c][0])] }

// order returns the order of a: the product of how many a moves nothing.
func (x *group) order(a int) int {
	n := 1
	for b := a; b != 0; b = x.times[b][a] {
		n++
	}
	return n
}

// prime returns the prime of x.
func (x *group) prime() int {
	q := max(len(x.moves), x.d) + 1
	for !isPrime(q) || !x.fits(q) {
		q++
	}
	return q
}

// fits reports whether q - 1 is divisible by the order of every element.
func (x *group) fits(q int) bool {
	for a := range x.moves {
		if (q-1)%x.order(a) != 0 {
			return false
		}
	}
	return true
}

// isPrime reports whether q, which is at least 2, is a prime.
func isPrime(q int) bool {
	for p := 2; p*p <= q; p++ {
		if q%p == 0 {
			return false
		}
	}
	return true
}

// divide returns a divided by b, which is not 0, modulo q.
func (x *group) divide(a, b int) int {
	y := 0
	for b*y%x.q != a%x.q {
		y++
	}
	return y
}
