package traces_test

import (
	"reflect"
	"slices"
	"testing"

	"corsage/api"
	"corsage/traces"
)

// checkElements compares Elements of these permutations with the products that a model finds.
func checkElements(t *testing.T, a all, by []int) (tooLarge bool) {
	t.Helper()
	members := a.generated(by)
	l, e := traces.Elements(a.pick(by))
	if len(members) > 24 {
		refused(t, len(l) == 0, e, api.ErrSize, a.pick(by))
		return true
	}
	if !reflect.DeepEqual(l, a.pick(members)) || e != api.OK {
		t.Error(a.pick(by), l, e)
	}
	return false
}

// P7.1: all couples of up to 4 numbers, every 7th of 5, and some sets of three and four.
func TestElements(t *testing.T) {
	d := dice{seed: 7}
	fit, large := 0, 0
	check := func(a all, by ...int) {
		if checkElements(t, a, by) {
			large++
		} else {
			fit++
		}
	}
	for _, a := range everything()[1:] {
		for b := range a.perms {
			check(a, b)
			for c := range a.perms {
				if a.d < 5 || (b*len(a.perms)+c)%7 == 0 {
					check(a, b, c)
				}
			}
		}
		for range 100 {
			n := len(a.perms)
			check(a, d.below(n), d.below(n), d.below(n))
			check(a, d.below(n), d.below(n), d.below(n), d.below(n))
		}
	}
	if fit < 1000 || large < 1000 {
		t.Error(fit, large)
	}
}

// P7.1: the group and its elements one by one.
func TestElementsOfSome(t *testing.T) {
	for _, x := range []struct{ g, want [][]int }{
		{[][]int{{0}}, [][]int{{0}}},
		{[][]int{{0}, {0}, {0}, {0}}, [][]int{{0}}},
		{[][]int{{0, 1, 2, 3, 4}}, [][]int{{0, 1, 2, 3, 4}}},
		{[][]int{{1, 0}}, [][]int{{0, 1}, {1, 0}}},
		{[][]int{{1, 2, 0}}, [][]int{{0, 1, 2}, {1, 2, 0}, {2, 0, 1}}},
		{[][]int{{1, 2, 0}, {1, 0, 2}}, [][]int{{0, 1, 2}, {0, 2, 1}, {1, 0, 2}, {1, 2, 0}, {2, 0, 1}, {2, 1, 0}}},
		{[][]int{{1, 0, 2, 4, 3}}, [][]int{{0, 1, 2, 3, 4}, {1, 0, 2, 4, 3}}},
		{[][]int{{0, 1, 2, 4, 3}, {1, 0, 2, 3, 4}}, [][]int{{0, 1, 2, 3, 4}, {0, 1, 2, 4, 3}, {1, 0, 2, 3, 4}, {1, 0, 2, 4, 3}}},
	} {
		if l, e := traces.Elements(x.g); !reflect.DeepEqual(l, x.want) || e != api.OK {
			t.Error(x.g, l, e)
		}
	}
	// just as many as there may be
	if l, e := traces.Elements([][]int{{1, 2, 3, 0}, {1, 0, 2, 3}}); !reflect.DeepEqual(l, orders(4)) || e != api.OK {
		t.Error(l, e)
	}
	if l, e := traces.Elements([][]int{{0, 2, 3, 4, 1}, {0, 2, 1, 3, 4}}); len(l) != 24 || e != api.OK {
		t.Error(l, e)
	}
}

// P7.1
func TestClasses(t *testing.T) {
	for _, x := range groups() {
		if l, e := traces.Classes(x.g); !reflect.DeepEqual(l, x.classes) || e != api.OK {
			t.Error(x.g, l, e)
		}
	}
	for _, x := range []struct{ g, want [][]int }{
		{[][]int{{0}}, [][]int{{0}}},
		{[][]int{{1, 2, 0}}, [][]int{{0}, {1}, {2}}},
		{[][]int{{1, 2, 0}, {1, 0, 2}}, [][]int{{0}, {1, 2, 5}, {3, 4}}},
		// turning and mirroring a square: 0123 0321 1032 1230 2103 2301 3012 3210
		{[][]int{{1, 2, 3, 0}, {0, 3, 2, 1}}, [][]int{{0}, {1, 4}, {2, 7}, {3, 6}, {5}}},
		// two turnings of three in opposite directions are not alike without a mirror
		{[][]int{{1, 2, 0, 3}, {0, 2, 3, 1}}, [][]int{{0}, {1, 5, 6, 10}, {2, 4, 7, 9}, {3, 8, 11}}},
	} {
		if l, e := traces.Classes(x.g); !reflect.DeepEqual(l, x.want) || e != api.OK {
			t.Error(x.g, l, e)
		}
	}
}

// P7.1
func TestPrime(t *testing.T) {
	for _, x := range groups() {
		if q, e := traces.Prime(x.g); q != x.q || e != api.OK {
			t.Error(x.g, q, e)
		}
	}
	for _, x := range []struct {
		g    [][]int
		want int
	}{
		{[][]int{{0}}, 2}, {[][]int{{0, 1}}, 3}, {[][]int{{0, 1, 2}}, 5}, {[][]int{{0, 1, 2, 3}}, 5}, {[][]int{{0, 1, 2, 3, 4}}, 7},
		{[][]int{{1, 0}}, 3}, {[][]int{{1, 0, 2, 3}}, 5}, {[][]int{{1, 0, 2, 3, 4}}, 7},
		{[][]int{{1, 2, 0}}, 7}, {[][]int{{1, 2, 0, 3, 4}}, 7}, {[][]int{{1, 2, 0}, {1, 0, 2}}, 7},
		{[][]int{{1, 2, 3, 0}}, 5}, {[][]int{{1, 2, 3, 0, 4}}, 13}, {[][]int{{1, 0, 3, 2}, {2, 3, 0, 1}}, 5}, {[][]int{{1, 2, 3, 0}, {0, 3, 2, 1}}, 13},
		{[][]int{{1, 2, 0, 3}, {0, 2, 3, 1}}, 13}, {[][]int{{1, 2, 3, 0}, {1, 0, 2, 3}}, 37},
		{[][]int{{1, 2, 3, 4, 0}}, 11}, {[][]int{{1, 2, 3, 4, 0}, {0, 4, 3, 2, 1}}, 11}, {[][]int{{1, 2, 3, 4, 0}, {0, 2, 4, 1, 3}}, 41},
		{[][]int{{1, 2, 0, 4, 3}}, 7}, {[][]int{{1, 2, 0, 4, 3}, {1, 0, 2, 3, 4}}, 13},
	} {
		if q, e := traces.Prime(x.g); q != x.want || e != api.OK {
			t.Error(x.g, q, e)
		}
	}
}

// P7.1 to P7.7: what generates no group is refused by all functions, before all else, and a group that is too large before the functions are looked at.
func TestRefuse(t *testing.T) {
	for _, bad := range [][]int{{1}, nil, {-1}, {1, 1, 1, 1, 1, 1, 1}} {
		for _, c := range calls(bad, bad, 2) {
			for _, g := range notGenerators() {
				zero, e := c.with(g)
				refused(t, zero, e, api.ErrArg, c.name, len(g), g[:min(len(g), 5)])
			}
			for _, g := range large() {
				zero, e := c.with(g)
				refused(t, zero, e, api.ErrSize, c.name, g)
			}
		}
	}
}

// Rule 4: arguments stay as they are, also behind their ends, and the results are in memory of their own.
func TestOwnMemory(t *testing.T) {
	for _, x := range groups() {
		one := slices.Repeat([]int{1}, len(x.classes))
		for _, ask := range []func(g [][]int, f []int) ([][]int, api.Errno){
			func(g [][]int, f []int) ([][]int, api.Errno) { return traces.Elements(g) },
			func(g [][]int, f []int) ([][]int, api.Errno) { return traces.Classes(g) },
			func(g [][]int, f []int) ([][]int, api.Errno) { return traces.Table(g) },
			func(g [][]int, f []int) ([][]int, api.Errno) { return traces.Orbits(g) },
			func(g [][]int, f []int) ([][]int, api.Errno) { return traces.Normal(g) },
			func(g [][]int, f []int) ([][]int, api.Errno) { return asRow(traces.Fixed(g)) },
			func(g [][]int, f []int) ([][]int, api.Errno) { return asRow(traces.Split(g, f)) },
			func(g [][]int, f []int) ([][]int, api.Errno) { return asRow(traces.Kernel(g, f)) },
		} {
			ownMemory(t, x.g, one, ask)
		}
	}
}

// asRow returns l as the one row of a list.
func asRow(l []int, e api.Errno) ([][]int, api.Errno) { return [][]int{l}, e }

func ownMemory(t *testing.T, g [][]int, f []int, ask func(g [][]int, f []int) ([][]int, api.Errno)) {
	t.Helper()
	roomy := func(l []int) []int { return append(make([]int, 0, len(l)+9), l...) }
	g2, f2 := [][]int{}, roomy(f)
	for _, p := range g {
		g2 = append(g2, roomy(p))
	}
	got, e := ask(g2, f2)
	if e != api.OK {
		t.Fatal(g, e)
	}
	kept := [][]int{}
	for _, row := range got {
		kept = append(kept, slices.Clone(row))
	}
	// what one row is overwritten with, to the end of its memory, is in no other
	for i, row := range got {
		if !slices.Equal(row, kept[i]) {
			t.Error(g, i, row, kept[i])
		}
		for k := range row[:cap(row)] {
			row[:cap(row)][k] = -5
		}
	}
	for i, p := range append(slices.Clone(g2), f2) {
		want := append(slices.Clone(g), f)[i]
		if !slices.Equal(p, want) || !slices.Equal(p[len(p):cap(p)], make([]int, cap(p)-len(p))) {
			t.Error(g, p, want)
		}
	}
	if again, e := ask(g2, f2); !reflect.DeepEqual(again, kept) || e != api.OK {
		t.Error(g, again, kept, e)
	}
}

// others returns generators of x other than its own: its own in other orders and twice, and up to four elements of which the last ones are its own.
func others(x *group) [][][]int {
	a, b := x.g[0], x.g[1]
	list := [][][]int{{b, a}, {a, b, a}, {b, a, a, b}, {after(a, b), a}, {a, b, after(b, a), after(a, a)}}
	for i := 0; i < len(x.perms); i += 5 {
		list = append(list, [][]int{x.perms[i], a, b}, [][]int{x.perms[i], x.perms[len(x.perms)-1-i], b, a})
	}
	return list
}

// P5: a group has the same results whatever generates it.
func TestSameGroup(t *testing.T) {
	for _, x := range groups() {
		want := results(t, x.g)
		for _, g := range others(x) {
			if got := results(t, g); !reflect.DeepEqual(got, want) {
				t.Error(x.g, g, got, want)
			}
		}
	}
}

// results returns what all functions that take generators alone return for g, and Bouquets of 3.
func results(t *testing.T, g [][]int) []any {
	t.Helper()
	var list []any
	for _, ask := range []func(g [][]int) ([][]int, api.Errno){traces.Elements, traces.Classes, traces.Table, traces.Orbits, traces.Normal} {
		l, e := ask(g)
		list = append(list, l, e)
	}
	q, e1 := traces.Prime(g)
	f, e2 := traces.Fixed(g)
	n, e3 := traces.Bouquets(g, 3)
	return append(list, q, e1, f, e2, n, e3)
}

// P5: where the numbers are called otherwise, elements, classes, functions and orbits are too, and nothing else changes.
func TestRenamed(t *testing.T) {
	for i, x := range groups() {
		a := everything()[x.d]
		c := a.perms[(i*11+5)%len(a.perms)]
		back := make([]int, x.d)
		for k, n := range c {
			back[n] = k
		}
		var g [][]int
		for _, p := range x.g {
			g = append(g, after(c, after(p, back)))
		}
		checkRenamed(t, x, g, func(p []int) []int { return after(c, after(p, back)) })
	}
}

// checkRenamed compares x with the group of g, in which each permutation is as it is called.
func checkRenamed(t *testing.T, x *group, g [][]int, called func(p []int) []int) {
	t.Helper()
	elements, _ := traces.Elements(g)
	classes, _ := traces.Classes(g)
	class := make([]int, len(x.classes)) // that of x as one of g
	for i, l := range x.classes {
		k, ok := slices.BinarySearchFunc(elements, called(x.perms[l[0]]), slices.Compare[[]int])
		class[i] = slices.IndexFunc(classes, func(m []int) bool { return slices.Contains(m, k) })
		if !ok || class[i] < 0 || len(classes[class[i]]) != len(l) {
			t.Fatal(x.g, g, i)
		}
	}
	var want [][]int
	for _, f := range rows(t, x) {
		h := make([]int, len(f))
		for i, y := range f {
			h[class[i]] = y
		}
		want = append(want, h)
	}
	slices.SortFunc(want, slices.Compare[[]int])
	if l, e := traces.Table(g); !reflect.DeepEqual(l, want) || e != api.OK {
		t.Error(x.g, g, l, want, e)
	}
	n, _ := traces.Bouquets(x.g, 3)
	if m, e := traces.Bouquets(g, 3); m != n || e != api.OK {
		t.Error(x.g, g, m, n, e)
	}
	if q, e := traces.Prime(g); q != x.q || e != api.OK {
		t.Error(x.g, g, q, e)
	}
}
