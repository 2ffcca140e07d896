package schur

import (
	"slices"

	"corsage/api"
)

// maxRows is how many rows a Skew may have, those without boxes among them.
const maxRows = 20

// whole returns the rows of s with the boxes that are not there, in new memory and without the rows that have no boxes; false if s is no skew filling.
func whole(s Skew) ([][]int, bool) {
	if !isShape(s.Inner) || len(s.Rows) < len(s.Inner) || len(s.Rows) > maxRows {
		return nil, false
	}
	rows := make([][]int, len(s.Rows))
	for i, row := range s.Rows {
		if len(row) > api.MaxBoxes || !hasNumbers(row) {
			return nil, false
		}
		rows[i] = append(make([]int, part(s.Inner, i)), row...)
	}
	rows = trim(rows)
	return rows, isFilled(rows)
}

// skewOf is the inverse of whole.
func skewOf(rows [][]int) Skew {
	var s Skew
	for _, row := range trim(rows) {
		holes := 0
		for holes < len(row) && row[holes] == 0 {
			holes++
		}
		if holes > 0 {
			s.Inner = append(s.Inner, holes)
		}
		s.Rows = append(s.Rows, slices.Clone(row[holes:]))
	}
	return s
}

// slide moves the hole in box j of row i out of the rows.
func slide(rows [][]int, i, j int) {
	for {
		right, below := at(rows, i, j+1), at(rows, i+1, j)
		switch {
		case right == 0 && below == 0:
			rows[i] = rows[i][:j]
			return
		case below == 0 || right != 0 && right < below:
			rows[i][j] = right
			j++
		default:
			rows[i][j] = below
			i++
		}
	}
}

// isCorner reports whether the last box of a row of the shape l has no box below it.
func isCorner(l []int, row int) bool {
	return row >= 0 && row < len(l) && part(l, row+1) < l[row]
}

// Slide returns the skew filling after the slide into the last box of a row of Inner.
func Slide(s Skew, row int) (Skew, api.Errno) {
	rows, ok := whole(s)
	if !ok || !isCorner(s.Inner, row) {
		return Skew{}, api.ErrArg
	}
	slide(rows, row, s.Inner[row]-1)
	return skewOf(rows), api.OK
}

// Straight returns the filling that slides lead to.
func Straight(s Skew) ([][]int, api.Errno) {
	rows, ok := whole(s)
	if !ok {
		return nil, api.ErrArg
	}
	// From the bottom row of Inner up and from its right end to the left, each box is a corner when its turn comes.
	for i, holes := range slices.Backward(s.Inner) {
		for j := holes - 1; j >= 0; j-- {
			slide(rows, i, j)
		}
	}
	return clone(trim(rows)), api.OK
}

// Swap returns the filling in which k and k + 1 have exchanged how often they occur.
func Swap(rows [][]int, k int) ([][]int, api.Errno) {
	if k < 1 || k >= api.MaxBoxes || !isFilling(rows) {
		return nil, api.ErrArg
	}
	swapped := clone(rows)
	for i, row := range rows {
		var free []int
		greater := 0
		for j, n := range row {
			switch {
			case n == k && at(rows, i+1, j) != k+1:
				free = append(free, j)
			case n == k+1 && at(rows, i-1, j) != k:
				free = append(free, j)
				greater++
			}
		}
		for p, j := range free {
			if p < greater {
				swapped[i][j] = k
			} else {
				swapped[i][j] = k + 1
			}
		}
	}
	return swapped, api.OK
}
