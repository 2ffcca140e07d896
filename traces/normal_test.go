package traces_test

import (
	"reflect"
	"slices"
	"testing"

	"corsage/api"
	"corsage/traces"
)

// inside returns the classes of x in which h lies, rising, if it lies in x and has all elements of them.
func inside(x, h *group) ([]int, bool) {
	var list []int
	count := 0
	for c, class := range x.classes {
		in := 0
		for _, b := range class {
			if slices.Contains(h.members, x.members[b]) {
				in++
			}
		}
		if in > 0 && in < len(class) {
			return nil, false
		}
		if in > 0 {
			list = append(list, c)
			count += in
		}
	}
	return list, count == len(h.members)
}

// P7.6: of all groups of permutations, those that lie in the group and are made of its classes.
func TestNormal(t *testing.T) {
	for _, x := range groups() {
		var want [][]int
		for _, h := range foundAll()[x.d] {
			if l, ok := inside(x, h); ok {
				want = append(want, l)
			}
		}
		slices.SortFunc(want, slices.Compare[[]int])
		if l, e := traces.Normal(x.g); !reflect.DeepEqual(l, want) || e != api.OK {
			t.Error(x.g, l, want, e)
		}
	}
	for _, x := range []struct{ g, want [][]int }{
		{[][]int{{0}}, [][]int{{0}}},
		{[][]int{{1, 0}}, [][]int{{0}, {0, 1}}},
		{[][]int{{1, 2, 0}}, [][]int{{0}, {0, 1, 2}}},
		{[][]int{{1, 2, 0}, {1, 0, 2}}, [][]int{{0}, {0, 1, 2}, {0, 2}}},
		{[][]int{{1, 2, 3, 0}}, [][]int{{0}, {0, 1, 2, 3}, {0, 2}}},
		{[][]int{{1, 0, 3, 2}, {2, 3, 0, 1}}, [][]int{{0}, {0, 1}, {0, 1, 2, 3}, {0, 2}, {0, 3}}},
		{[][]int{{1, 2, 3, 0}, {1, 0, 2, 3}}, [][]int{{0}, {0, 1, 2, 3, 4}, {0, 2, 3}, {0, 3}}},
	} {
		if l, e := traces.Normal(x.g); !reflect.DeepEqual(l, x.want) || e != api.OK {
			t.Error(x.g, l, e)
		}
	}
}

// P7.10: the kernels are normal, and each of those is what the kernels around it have in common.
func TestNormalByKernels(t *testing.T) {
	for _, x := range groups() {
		normal, e := traces.Normal(x.g)
		if len(normal) == 0 || e != api.OK {
			t.Error(x.g, normal, e)
		}
		var kernels [][]int
		for _, f := range rows(t, x) {
			l, e := traces.Kernel(x.g, f)
			if e != api.OK || !slices.ContainsFunc(normal, func(n []int) bool { return slices.Equal(n, l) }) {
				t.Error(x.g, f, l, e)
			}
			kernels = append(kernels, l)
		}
		for _, n := range normal {
			var common []int
			for c := range x.classes {
				if !slices.ContainsFunc(kernels, func(k []int) bool { return contains(k, n) && !slices.Contains(k, c) }) {
					common = append(common, c)
				}
			}
			if !slices.Equal(common, n) {
				t.Error(x.g, n, kernels)
			}
		}
	}
}

// contains reports whether all numbers of n are in k.
func contains(k, n []int) bool {
	return !slices.ContainsFunc(n, func(c int) bool { return !slices.Contains(k, c) })
}
