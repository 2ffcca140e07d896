package signs

import (
	"slices"

	"corsage/api"
)

// Design returns the sets of a balanced matrix.
func Design(h []int) ([]int, api.Errno) {
	if !valid(h) || len(h) < 4 {
		return nil, api.ErrArg
	}
	if !balanced(h) {
		return nil, api.ErrState
	}
	sets := normal(h)[1:]
	for i, row := range sets {
		sets[i] = turn(row, len(h)) >> 1
	}
	return sets, api.OK
}

// Words returns all rows, and all turned ones.
func Words(h []int) ([]int, api.Errno) {
	if !valid(h) {
		return nil, api.ErrArg
	}
	if !balanced(h) {
		return nil, api.ErrState
	}
	words := slices.Clone(h)
	for _, row := range h {
		words = append(words, turn(row, len(h)))
	}
	slices.Sort(words)
	return words, api.OK
}
