package schemes

import "corsage/api"

// The sizes of the families.
const (
	minPairs = 4
	maxPairs = 6
	minGrid  = 2
	maxGrid  = 4
)

// tie returns the graph with n nodes in which two different ones are neighbours where near says so.
func tie(n int, near func(i, j int) bool) []int {
	g := make([]int, n)
	for i := range n {
		for j := range n {
			if i != j && near(i, j) {
				g[i] |= 1 << j
			}
		}
	}
	return g
}

// Squares returns the graph of squares modulo a prime.
// Of these primes -1 is a square, so that it does not matter which node is taken from which.
func Squares(p int) ([]int, api.Errno) {
	if p != 5 && p != 13 {
		return nil, api.ErrArg
	}
	squares := 0
	for x := 1; x < p; x++ {
		squares |= 1 << (x * x % p)
	}
	return tie(p, func(i, j int) bool { return has(squares, (i-j+p)%p) }), api.OK
}

// Pairs returns the graph of pairs.
func Pairs(n int) ([]int, api.Errno) {
	if n < minPairs || n > maxPairs {
		return nil, api.ErrArg
	}
	var pairs []int
	for a := range n {
		for b := a + 1; b < n; b++ {
			pairs = append(pairs, 1<<a|1<<b)
		}
	}
	return tie(len(pairs), func(i, j int) bool { return common(pairs, i, j) == 1 }), api.OK
}

// Grid returns the graph of a grid.
func Grid(n int) ([]int, api.Errno) {
	if n < minGrid || n > maxGrid {
		return nil, api.ErrArg
	}
	return tie(n*n, func(i, j int) bool { return i/n == j/n || i%n == j%n }), api.OK
}
