// Package schur plans beds of flowers: shapes filled with numbers, products of shapes, slides, and the characters of shapes.
package schur

import "corsage/api"

// Term is a shape and how often it occurs in a product.
type Term struct {
	Shape []int
	Count int
}

// Skew is a skew filling: row i of Rows begins behind Inner[i] boxes that are not there.
type Skew struct {
	Inner []int
	Rows  [][]int
}

// isShape reports whether l is a shape.
func isShape(l []int) bool {
	if len(l) > api.MaxBoxes {
		return false
	}
	for i, n := range l {
		if n < 1 || n > api.MaxBoxes || i > 0 && n > l[i-1] {
			return false
		}
	}
	return boxes(l) <= api.MaxBoxes
}

// isContent reports whether m is a content.
func isContent(m []int) bool {
	if len(m) > api.MaxBoxes {
		return false
	}
	for _, n := range m {
		if n < 0 || n > api.MaxBoxes {
			return false
		}
	}
	return boxes(m) <= api.MaxBoxes
}

// boxes returns the sum of the numbers.
func boxes(l []int) int {
	sum := 0
	for _, n := range l {
		sum += n
	}
	return sum
}

// part returns element i of a shape, 0 behind its end.
func part(l []int, i int) int {
	if i < len(l) {
		return l[i]
	}
	return 0
}
