package schur

import (
	"iter"
	"slices"

	"corsage/api"
)

// shapes yields all shapes with n boxes, rising, each in new memory.
func shapes(n int) iter.Seq[[]int] {
	return func(yield func([]int) bool) {
		var grow func(l []int, rest, most int) bool
		grow = func(l []int, rest, most int) bool {
			if rest == 0 {
				return yield(slices.Clone(l))
			}
			for k := 1; k <= min(rest, most); k++ {
				if !grow(append(l, k), rest-k, k) {
					return false
				}
			}
			return true
		}
		grow(nil, n, n)
	}
}

// contains reports whether all boxes of a are boxes of c.
func contains(c, a []int) bool {
	for i, n := range a {
		if n > part(c, i) {
			return false
		}
	}
	return true
}

// keepsOrder reports whether, where the rows are read as a product reads them, no number ever came more often than the one before it.
func keepsOrder(rows [][]int) bool {
	var came tally
	for n := range reading(rows) {
		came[n-1]++
		if n > 1 && came[n-1] > came[n-2] {
			return false
		}
	}
	return true
}

// times returns the Count of c in the product of a and b, 0 if it does not occur.
func times(a, b, c []int) int {
	if boxes(c) != boxes(a)+boxes(b) || !contains(c, a) {
		return 0
	}
	count := 0
	fill(c, a, tallyOf(b), func(rows [][]int) {
		if keepsOrder(rows) {
			count++
		}
	})
	return count
}

// Product returns the product of two shapes, rising by Shape.
func Product(a, b []int) ([]Term, api.Errno) {
	if !isShape(a) || !isShape(b) {
		return nil, api.ErrArg
	}
	n := boxes(a) + boxes(b)
	if n > api.MaxBoxes {
		return nil, api.ErrSize
	}
	var terms []Term
	for c := range shapes(n) {
		if count := times(a, b, c); count != 0 {
			terms = append(terms, Term{Shape: c, Count: count})
		}
	}
	return terms, api.OK
}

// Rule returns the Count of c in the product of a and b, 0 if it does not occur.
func Rule(a, b, c []int) (int, api.Errno) {
	if !isShape(a) || !isShape(b) || !isShape(c) {
		return 0, api.ErrArg
	}
	return times(a, b, c), api.OK
}
