package rooks

import (
	"cmp"
	"slices"

	"corsage/api"
)

// maxFactor is the greatest number at which Factor is defined.
const maxFactor = 10

// areHeights reports whether l are the heights of a stair.
func areHeights(l []int) bool {
	if !isSize(len(l)) || !slices.IsSorted(l) {
		return false
	}
	return l[0] >= 0 && l[len(l)-1] <= len(l)
}

// stair returns the stair of the heights l.
func stair(l []int) []int {
	b := make([]int, len(l))
	for i, height := range l {
		b[i] = below(height)
	}
	return b
}

// Stair returns the stair of heights.
func Stair(l []int) ([]int, api.Errno) {
	if !areHeights(l) {
		return nil, api.ErrArg
	}
	return stair(l), api.OK
}

// Heights returns the heights of a board that is a stair but for the order of its rows and columns.
// It is one if of any two rows one is in the other: then the columns can be put in the order in which the rows, from the greatest on, lose them.
func Heights(b []int) ([]int, api.Errno) {
	if !isBoard(b) {
		return nil, api.ErrArg
	}
	rows := slices.Clone(b)
	slices.SortFunc(rows, func(x, y int) int { return cmp.Compare(size(x), size(y)) })
	heights := make([]int, len(rows))
	for i, row := range rows {
		if i > 0 && rows[i-1]&^row != 0 {
			return nil, api.ErrNone
		}
		heights[i] = size(row)
	}
	return heights, api.OK
}

// Steep returns the steep heights.
// The heights that are 0 come first, so they have the differences 0, -1 and so on, down to the least one: each number from it to 0 is there, as no l[i] - i is more than 1 below the one before it.
// The heights after them rise by at least 1, so their differences are the others, in order.
func Steep(l []int) ([]int, api.Errno) {
	if !areHeights(l) {
		return nil, api.ErrArg
	}
	differences := make([]int, len(l))
	for i, height := range l {
		differences[i] = height - i
	}
	slices.Sort(differences)
	var steep, others []int
	for i, d := range differences {
		if d <= 0 && (i == 0 || d > differences[i-1]) {
			steep = append(steep, 0)
		} else {
			others = append(others, d)
		}
	}
	for _, d := range others {
		steep = append(steep, d+len(steep))
	}
	return steep, api.OK
}

// Factor returns the sum of the rook numbers of a stair, the k-th one times x (x - 1) .., which are n - k numbers.
func Factor(l []int, x int) (int, api.Errno) {
	if !areHeights(l) || x < 0 || x > maxFactor {
		return 0, api.ErrArg
	}
	sum := 0
	for k, ways := range rookNumbers(stair(l)) {
		for i := range len(l) - k {
			ways *= x - i
		}
		sum += ways
	}
	return sum, api.OK
}
