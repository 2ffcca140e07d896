package signs

import (
	"math/bits"
	"slices"

	"corsage/api"
)

const (
	maxAdded = 12 // rows of a matrix whose best sum or determinant is asked for
	maxMost  = 5  // rows for which the greatest determinant is asked for
)

// abs returns the number without its sign.
func abs(x int) int { return max(x, -x) }

// sum returns the sum of the n signs of a row.
func sum(row, n int) int { return n - 2*bits.OnesCount(uint(row)) }

// Sum returns the sum of all entries.
func Sum(h []int) (int, api.Errno) {
	if !valid(h) {
		return 0, api.ErrArg
	}
	total := 0
	for _, row := range h {
		total += sum(row, len(h))
	}
	return total, api.OK
}

// Best returns the greatest sum after turning.
func Best(h []int) (int, api.Errno) {
	if !valid(h) || len(h) > maxAdded {
		return 0, api.ErrArg
	}
	best := 0
	for columns := range 1 << len(h) {
		total := 0
		for _, row := range h {
			// Once it is clear which columns are turned, each row is turned or not, whichever has the greater sum.
			total += abs(sum(row^columns, len(h)))
		}
		best = max(best, total)
	}
	return best, api.OK
}

// entries returns the entries of h as numbers.
func entries(h []int) [][]int {
	m := make([][]int, len(h))
	for i, row := range h {
		m[i] = make([]int, len(h))
		for j := range h {
			m[i][j] = 1
			if has(row, j) {
				m[i][j] = -1
			}
		}
	}
	return m
}

// det returns the determinant of h.
// After step k every entry that is left is the determinant of k + 2 rows and columns of h: so each division leaves no rest, and the numbers stay small.
func det(h []int) int {
	m := entries(h)
	sign, last := 1, 1
	for k := range m {
		first := slices.IndexFunc(m[k:], func(row []int) bool { return row[k] != 0 })
		if first < 0 {
			return 0
		}
		if first > 0 {
			m[k], m[k+first] = m[k+first], m[k]
			sign = -sign
		}
		for _, row := range m[k+1:] {
			for j := k + 1; j < len(m); j++ {
				row[j] = (row[j]*m[k][k] - row[k]*m[k][j]) / last
			}
		}
		last = m[k][k]
	}
	return sign * last
}

// Det returns the determinant.
func Det(h []int) (int, api.Errno) {
	if !valid(h) || len(h) > maxAdded {
		return 0, api.ErrArg
	}
	return det(h), api.OK
}

// Most returns the greatest determinant.
// Turning, and exchanging rows, changes no more than the sign, and turning one row just the sign: so it suffices to try normal forms whose rows rise.
func Most(n int) (int, api.Errno) {
	if n < 1 || n > maxMost {
		return 0, api.ErrArg
	}
	most := 0
	h := make([]int, n)
	var fill func(i int)
	fill = func(i int) {
		if i == n {
			most = max(most, abs(det(h)))
			return
		}
		for row := h[i-1] + 2; row < 1<<n; row += 2 {
			h[i] = row
			fill(i + 1)
		}
	}
	fill(1)
	return most, api.OK
}
