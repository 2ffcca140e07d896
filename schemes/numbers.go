package schemes

import "corsage/api"

// The numbers of nodes that may be asked about, and the greatest one of List.
const (
	minAsked = 4
	maxAsked = 100
	maxList  = 30
)

// The reasons against Numbers, from 1 on, in the order in which they are looked for.
const (
	none = iota
	pathsDiffer
	partsUnequal
	rootsNotWhole
	timesNotWhole
	rootsTooFar
	timesTooFew
)

// Spectrum is two values and how often they occur.
type Spectrum struct{ R, S, F, G int }

// isAsked reports whether x may be asked about.
func isAsked(x Numbers) bool {
	return x.N >= minAsked && x.N <= maxAsked && x.K >= 1 && x.K <= x.N-2 && x.L >= 0 && x.L < x.K && x.M >= 0 && x.M <= x.K
}

// root returns the least number whose square is not less than x, and whether it is x.
func root(x int) (int, bool) {
	r := 0
	for r*r < x {
		r++
	}
	return r, r*r == x
}

// isTwoSquares reports whether x is a sum of two squares.
func isTwoSquares(x int) bool {
	for a := 0; a*a <= x; a++ {
		if _, exact := root(x - a*a); exact {
			return true
		}
	}
	return false
}

// spectrum returns the spectrum of x, which may be asked about.
// Where the distance of R and S is whole they are too, as it is odd just if their sum is.
// F and G are always above 0, so only their being whole is in doubt: as R is at least 0, S at most -1 and K at most N - 2, K + (N - 1) R is above 0 and K + (N - 1) S below.
func spectrum(x Numbers) (Spectrum, api.Errno) {
	sum := x.L - x.M
	distance, exact := root(sum*sum + 4*(x.K-x.M))
	if !exact {
		return Spectrum{}, api.ErrState
	}
	y := Spectrum{R: (sum + distance) / 2, S: (sum - distance) / 2}
	f := -x.K - (x.N-1)*y.S
	if f%distance != 0 {
		return Spectrum{}, api.ErrNone
	}
	y.F = f / distance
	y.G = x.N - 1 - y.F
	return y, api.OK
}

// part returns how many nodes each part must have into which a graph with the Numbers x falls if M is 0, and its other graph if M is K.
func part(x Numbers) int {
	if x.M == 0 {
		return x.K + 1
	}
	return x.N - x.K
}

// isHalf reports whether there may be a graph with the Numbers x although R and S are not whole: if each occurs as often as the other, and N is a sum of two squares.
func isHalf(x Numbers) bool {
	return 2*x.K+(x.N-1)*(x.L-x.M) == 0 && isTwoSquares(x.N)
}

// tooFar reports whether the values a and b of Numbers with K = k are too far apart, looked at from a.
func tooFar(k, a, b int) bool {
	return (a+1)*(k+a+2*a*b) > (k+a)*(b+1)*(b+1)
}

// tooFew reports whether f times are too few for a value of a graph with n nodes.
func tooFew(n, f int) bool { return 2*n > f*(f+3) }

// reason returns the first reason against x, which may be asked about, or none.
func reason(x Numbers) int {
	if x.K*(x.K-x.L-1) != (x.N-x.K-1)*x.M {
		return pathsDiffer
	}
	if x.M == 0 || x.M == x.K {
		if x.N%part(x) != 0 {
			return partsUnequal
		}
		return none
	}
	y, e := spectrum(x)
	switch {
	case e == api.ErrState && isHalf(x):
		return none
	case e == api.ErrState:
		return rootsNotWhole
	case e == api.ErrNone:
		return timesNotWhole
	case tooFar(x.K, y.R, y.S) || tooFar(x.K, y.S, y.R):
		return rootsTooFar
	case tooFew(x.N, y.F) || tooFew(x.N, y.G):
		return timesTooFew
	}
	return none
}

// Solve returns the spectrum of Numbers.
func Solve(x Numbers) (Spectrum, api.Errno) {
	if !isAsked(x) {
		return Spectrum{}, api.ErrArg
	}
	return spectrum(x)
}

// Reason returns the first reason against Numbers.
func Reason(x Numbers) (int, api.Errno) {
	if !isAsked(x) {
		return 0, api.ErrArg
	}
	r := reason(x)
	if r == none {
		return 0, api.ErrNone
	}
	return r, api.OK
}

// List returns all Numbers without a reason.
func List(n int) ([]Numbers, api.Errno) {
	if n < minAsked || n > maxList {
		return nil, api.ErrArg
	}
	var all []Numbers
	for k := 1; k <= n-2; k++ {
		for l := range k {
			for m := range k + 1 {
				if x := (Numbers{N: n, K: k, L: l, M: m}); reason(x) == none {
					all = append(all, x)
				}
			}
		}
	}
	return all, api.OK
}
