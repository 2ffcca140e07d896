package schemes

import (
	"slices"

	"corsage/api"
)

// switched returns g switched by a set of its nodes.
func switched(g []int, set int) []int {
	h := slices.Clone(g)
	for i := range h {
		if has(set, i) {
			h[i] ^= below(len(g)) &^ set
		} else {
			h[i] ^= set
		}
	}
	return h
}

// Switch returns a graph after switching.
func Switch(g []int, set int) ([]int, api.Errno) {
	if !isGraph(g) || !isSet(set, len(g)) {
		return nil, api.ErrArg
	}
	return switched(g, set), api.OK
}

// Odd returns how many sets of three are odd.
func Odd(g []int) (int, api.Errno) {
	if !isGraph(g) {
		return 0, api.ErrArg
	}
	count := 0
	for i := range g {
		for j := range i {
			for k := range j {
				if has(g[i], j) != has(g[i], k) != has(g[j], k) {
					count++
				}
			}
		}
	}
	return count, api.OK
}

// Same returns a set by which switching makes h of g.
// A set and the set of all other nodes switch alike, and the lesser of them is without the last node: so it is the set of those that are the last node's neighbours in just one of the graphs.
func Same(g, h []int) (int, api.Errno) {
	if !isGraph(g) || !isGraph(h) || len(g) != len(h) {
		return 0, api.ErrArg
	}
	last := len(g) - 1
	set := g[last] ^ h[last]
	if !slices.Equal(switched(g, set), h) {
		return 0, api.ErrNone
	}
	return set, api.OK
}

// Alone returns a graph without a node, after switching.
func Alone(g []int, v int) ([]int, api.Errno) {
	if !isGraph(g) || len(g) < 2 || v < 0 || v >= len(g) {
		return nil, api.ErrArg
	}
	h := switched(g, g[v])
	rest := slices.Delete(h, v, v+1)
	for i, set := range rest {
		rest[i] = set&below(v) | set>>(v+1)<<v
	}
	return rest, api.OK
}
