package caps

import "slices"

// rule tells whether x may be added to l, which keeps to the rule already.
type rule func(l []int, x int) bool

// keepsTo reports whether l keeps to a rule: whether each element may be added to those before it.
func keepsTo(mayAdd rule, l []int) bool {
	for i, x := range l {
		if !mayAdd(l[:i], x) {
			return false
		}
	}
	return true
}

// addable returns those of the numbers that may be added to l.
func addable(mayAdd rule, l, numbers []int) []int {
	var all []int
	for _, x := range numbers {
		if mayAdd(l, x) {
			all = append(all, x)
		}
	}
	return all
}

// between returns the numbers from a to b - 1.
func between(a, b int) []int {
	var all []int
	for x := a; x < b; x++ {
		all = append(all, x)
	}
	return all
}

// longest returns, of the rising slices of these rising numbers that keep to a rule, the first of those with the most numbers.
// What may not be added must never be so after others have been added: so a slice is given up as soon as those that still may be are too few to make it longer than the best one.
func longest(mayAdd rule, numbers []int) []int {
	var best, l []int
	var grow func(rest []int)
	grow = func(rest []int) {
		if len(l) > len(best) {
			best = slices.Clone(l)
		}
		for i, x := range rest {
			if len(l)+len(rest)-i <= len(best) {
				return
			}
			l = append(l, x)
			grow(addable(mayAdd, l, rest[i+1:]))
			l = l[:len(l)-1]
		}
	}
	grow(addable(mayAdd, nil, numbers))
	return best
}

// first returns the first slice of k numbers from 0 to n - 1 that keeps to a rule, if there is one.
func first(mayAdd rule, k, n int) (l []int, found bool) {
	var grow func() bool
	grow = func() bool {
		if len(l) == k {
			return true
		}
		for x := range n {
			if !mayAdd(l, x) {
				continue
			}
			l = append(l, x)
			if grow() {
				return true
			}
			l = l[:len(l)-1]
		}
		return false
	}
	found = grow()
	return l, found
}
