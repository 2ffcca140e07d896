package schur

import (
	"iter"
	"slices"

	"corsage/api"
)

// Inside the package, rows have a 0 for each box that is not there, so that a column is the same index in every row.

// at returns the number in a box, 0 if there is none.
func at(rows [][]int, i, j int) int {
	if i < 0 || i >= len(rows) || j < 0 || j >= len(rows[i]) {
		return 0
	}
	return rows[i][j]
}

// reading yields the numbers as a product reads them: each row from right to left, the rows from the top down.
func reading(rows [][]int) iter.Seq[int] {
	return func(yield func(int) bool) {
		for _, row := range rows {
			for _, n := range slices.Backward(row) {
				if n != 0 && !yield(n) {
					return
				}
			}
		}
	}
}

// hasNumbers reports whether all numbers of a row are from 1 to 8.
func hasNumbers(row []int) bool {
	for _, n := range row {
		if n < 1 || n > api.MaxBoxes {
			return false
		}
	}
	return true
}

// isFilled reports whether the rows are a shape in which no number is greater than the one to its right, and each is less than the one below it.
// A 0 is less than every number, which is what makes it stand for a box that is not there.
func isFilled(rows [][]int) bool {
	var l []int
	for _, row := range rows {
		l = append(l, len(row))
	}
	if !isShape(l) {
		return false
	}
	for i, row := range rows {
		for j, n := range row {
			if n != 0 && n < least(rows, i, j) {
				return false
			}
		}
	}
	return true
}

// least returns the least number that may stand in a box because of those to its left and above it.
func least(rows [][]int, i, j int) int {
	return max(1, at(rows, i, j-1), at(rows, i-1, j)+1)
}

// isFilling reports whether the rows are a filling with numbers up to 8.
func isFilling(rows [][]int) bool {
	for _, row := range rows {
		if !hasNumbers(row) {
			return false
		}
	}
	return isFilled(rows)
}

// trim leaves out the rows without boxes at the end.
func trim(rows [][]int) [][]int {
	for len(rows) > 0 && len(rows[len(rows)-1]) == 0 {
		rows = rows[:len(rows)-1]
	}
	return rows
}

// clone returns the rows in new memory.
func clone(rows [][]int) [][]int {
	all := make([][]int, len(rows))
	for i, row := range rows {
		all[i] = slices.Clone(row)
	}
	return all
}
