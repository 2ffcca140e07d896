package mirror

import (
	"slices"

	"corsage/api"
)

// Normal returns the normal word of w's element.
func Normal(g Group, w []int) ([]int, api.Errno) {
	t, x, e := open(g, w)
	if e != api.OK {
		return nil, e
	}
	return t.words[x[0]], api.OK
}

// Length returns the length of w's element.
func Length(g Group, w []int) (int, api.Errno) {
	t, x, e := open(g, w)
	if e != api.OK {
		return 0, e
	}
	return t.length(x[0]), api.OK
}

// Words returns all short words of w's element, rising.
func Words(g Group, w []int) ([][]int, api.Errno) {
	t, x, e := open(g, w)
	if e != api.OK {
		return nil, e
	}
	var all [][]int
	var grow func(begun []int, rest int)
	grow = func(begun []int, rest int) {
		if rest == 0 {
			all = append(all, begun)
			return
		}
		for s, mirror := range t.right[0] {
			left := t.follow(mirror, t.words[rest])
			if t.length(left) < t.length(rest) {
				grow(with(begun, s), left)
			}
		}
	}
	grow(nil, x[0])
	return all, api.OK
}

// Times returns the normal word of the product of u's and w's elements.
func Times(g Group, u, w []int) ([]int, api.Errno) {
	t, x, e := open(g, u, w)
	if e != api.OK {
		return nil, e
	}
	return t.words[t.follow(x[0], w)], api.OK
}

// Back returns the normal word of the inverse of w's element.
func Back(g Group, w []int) ([]int, api.Errno) {
	backward := slices.Clone(w)
	slices.Reverse(backward)
	return Normal(g, backward)
}

// All returns the normal words of all elements, in order.
func All(g Group) ([][]int, api.Errno) {
	t, _, e := open(g)
	if e != api.OK {
		return nil, e
	}
	return t.words, api.OK
}

// Counts returns how many elements have each length.
func Counts(g Group) ([]int, api.Errno) {
	t, _, e := open(g)
	if e != api.OK {
		return nil, e
	}
	counts := make([]int, t.length(len(t.words)-1)+1)
	for x := range t.words {
		counts[t.length(x)]++
	}
	return counts, api.OK
}

// Longest returns the normal word of the one element with the greatest length.
func Longest(g Group) ([]int, api.Errno) {
	t, _, e := open(g)
	if e != api.OK {
		return nil, e
	}
	return t.words[len(t.words)-1], api.OK
}
