package signs

import (
	"math/bits"

	"corsage/api"
)

// Double returns the matrix with 2^k rows that has -1 where the numbers of row and column, as sets, have an odd number of elements in common.
func Double(k int) ([]int, api.Errno) {
	if k < 0 || k > 4 {
		return nil, api.ErrArg
	}
	odd := func(i, j int) bool { return bits.OnesCount(uint(i&j))%2 == 1 }
	return plant(1<<k, odd), api.OK
}

// Times returns the matrix that has b, times the entry, in the place of each entry of a.
func Times(a, b []int) ([]int, api.Errno) {
	if !valid(a) || !valid(b) {
		return nil, api.ErrArg
	}
	n := len(b)
	if len(a)*n > api.MaxSigns {
		return nil, api.ErrSize
	}
	differ := func(i, j int) bool { return has(a[i/n], j/n) != has(b[i%n], j%n) }
	return plant(len(a)*n, differ), api.OK
}

// Squares returns the matrix of the squares modulo the prime p.
func Squares(p int) ([]int, api.Errno) {
	switch p {
	case 3, 7, 11:
	default:
		return nil, api.ErrArg
	}
	minus := func(i, j int) bool { return i > 0 && (j == 0 || !isSquare(p, j-i)) }
	return plant(p+1, minus), api.OK
}

// isSquare reports whether n is a square modulo p; 0 is one.
func isSquare(p, n int) bool {
	for k := range p {
		if (k*k-n)%p == 0 {
			return true
		}
	}
	return false
}
