package traces

import (
	"slices"

	"corsage/api"
)

// has reports whether the class c is in a set.
func has(set, c int) bool { return set>>c&1 == 1 }

// isClosed reports whether a set of classes contains, with any elements a and b, their product.
func (x *group) isClosed(set int) bool {
	for a, row := range x.times {
		for b, ab := range row {
			if has(set, x.classOf[a]) && has(set, x.classOf[b]) && !has(set, x.classOf[ab]) {
				return false
			}
		}
	}
	return true
}

// list returns the classes in a set, rising.
func (x *group) list(set int) []int {
	var all []int
	for c := range x.classes {
		if has(set, c) {
			all = append(all, c)
		}
	}
	return all
}

// Normal returns all normal subgroups.
func Normal(g [][]int) ([][]int, api.Errno) {
	x, e := open(g)
	if e != api.OK {
		return nil, e
	}
	// All sets can be tried: no group that moves so few numbers has more than 6 classes.
	var all [][]int
	for set := 1; set < 1<<len(x.classes); set++ {
		if x.isClosed(set) {
			all = append(all, x.list(set))
		}
	}
	slices.SortFunc(all, slices.Compare[[]int])
	return all, api.OK
}
