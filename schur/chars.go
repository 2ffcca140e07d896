package schur

import (
	"slices"

	"corsage/api"
)

// withoutRim returns l without the rim of n boxes that lies in the rows from top to bottom; false if there is none.
func withoutRim(l []int, top, bottom, n int) ([]int, bool) {
	// Where the rim lies in more than one row, it takes from each but the last all boxes that have none diagonally below them, so only the last row's end is open.
	end := l[top] + bottom - top - n
	if end < part(l, bottom+1) || end >= l[bottom] {
		return nil, false
	}
	left := slices.Clone(l)
	for i := top; i < bottom; i++ {
		left[i] = l[i+1] - 1
	}
	left[bottom] = end
	for len(left) > 0 && left[len(left)-1] == 0 {
		left = left[:len(left)-1]
	}
	return left, true
}

// char returns the character of l at m, which have the same number of boxes.
func char(l, m []int) int {
	if len(m) == 0 {
		return 1
	}
	sum := 0
	for top := range l {
		for bottom := top; bottom < len(l); bottom++ {
			left, ok := withoutRim(l, top, bottom, m[0])
			if !ok {
				continue
			}
			if (bottom-top)%2 == 0 {
				sum += char(left, m[1:])
			} else {
				sum -= char(left, m[1:])
			}
		}
	}
	return sum
}

// Char returns the character of the shape l at the cycle type m.
func Char(l, m []int) (int, api.Errno) {
	if !isShape(l) || !isShape(m) || boxes(l) != boxes(m) {
		return 0, api.ErrArg
	}
	return char(l, m), api.OK
}
