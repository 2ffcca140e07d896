package rooks

import (
	"iter"
	"slices"

	"corsage/api"
)

// The numbers of guests at a table.
const (
	minGuests = 2
	maxGuests = 8
)

// permutations yields, rising, the permutations whose element i is in rows[i].
// All of them are the same slice: who keeps one copies it.
func permutations(rows []int) iter.Seq[[]int] {
	return func(yield func([]int) bool) {
		p := make([]int, len(rows))
		var place func(i, taken int) bool
		place = func(i, taken int) bool {
			if i == len(p) {
				return yield(p)
			}
			for j := range elements(rows[i] &^ taken) {
				p[i] = j
				if !place(i+1, taken|1<<j) {
					return false
				}
			}
			return true
		}
		place(0, 0)
	}
}

// rookNumbers returns the rook numbers of b.
func rookNumbers(b []int) []int {
	ways := make([]int, len(b)+1)
	var place func(i, taken, k int)
	place = func(i, taken, k int) {
		if i == len(b) {
			ways[k]++
			return
		}
		place(i+1, taken, k)
		for j := range elements(b[i] &^ taken) {
			place(i+1, taken|1<<j, k+1)
		}
	}
	place(0, 0, 0)
	return ways
}

// Rooks returns the rook numbers.
func Rooks(b []int) ([]int, api.Errno) {
	if !isBoard(b) {
		return nil, api.ErrArg
	}
	return rookNumbers(b), api.OK
}

// Hits returns the hit numbers.
func Hits(b []int) ([]int, api.Errno) {
	if !isBoard(b) {
		return nil, api.ErrArg
	}
	ways := make([]int, len(b)+1)
	for p := range permutations(other(make([]int, len(b)))) {
		k := 0
		for i, j := range p {
			if has(b[i], j) {
				k++
			}
		}
		ways[k]++
	}
	return ways, api.OK
}

// Avoid returns the first permutation that does not hit a board.
func Avoid(b []int) ([]int, api.Errno) {
	if !isBoard(b) {
		return nil, api.ErrArg
	}
	for p := range permutations(other(b)) {
		return slices.Clone(p), api.OK
	}
	return nil, api.ErrNone
}

// Barrier returns the first barrier, that with the least set of rows.
// There is one wherever each permutation hits the board: by Hall's theorem some rows then have, together, fewer free columns than they are.
func Barrier(b []int) (rows, columns int, e api.Errno) {
	if !isBoard(b) {
		return 0, 0, api.ErrArg
	}
	for set := range 1 << len(b) {
		common := below(len(b))
		for i := range elements(set) {
			common &= b[i]
		}
		if size(set)+size(common) > len(b) {
			return set, common, api.OK
		}
	}
	return 0, 0, api.ErrNone
}

// Guests returns how guests can be seated such that nobody sits beside themselves.
func Guests(n int) (int, api.Errno) {
	if n < minGuests || n > maxGuests {
		return 0, api.ErrArg
	}
	beside := make([]int, n)
	for i := range beside {
		beside[i] = 1<<i | 1<<((i+1)%n)
	}
	count := 0
	for range permutations(other(beside)) {
		count++
	}
	return count, api.OK
}
