package traces_test

import (
	"reflect"
	"slices"
	"testing"

	"corsage/api"
	"corsage/traces"
)

// P7.4
func TestFixed(t *testing.T) {
	for _, x := range groups() {
		f, e := traces.Fixed(x.g)
		if len(f) != len(x.classes) || e != api.OK {
			t.Error(x.g, f, e)
			continue
		}
		for b, p := range x.perms {
			count := 0
			for i := range p {
				if p[i] == i {
					count++
				}
			}
			if f[x.classOf[b]] != count {
				t.Error(x.g, f, p)
			}
		}
	}
	for _, x := range []struct {
		g    [][]int
		want []int
	}{{[][]int{{0}}, []int{1}}, {[][]int{{0, 1, 2, 3, 4}}, []int{5}}, {[][]int{{1, 2, 0}, {1, 0, 2}}, []int{3, 1, 0}}, {[][]int{{1, 0, 2, 3, 4}}, []int{5, 3}}, {[][]int{{1, 0, 2, 4, 3}}, []int{5, 1}}} {
		if f, e := traces.Fixed(x.g); !slices.Equal(f, x.want) || e != api.OK {
			t.Error(x.g, f, e)
		}
	}
}

// P7.4: two numbers are in one orbit if an element takes one to the other.
func TestOrbits(t *testing.T) {
	for _, x := range groups() {
		var want [][]int
		for i := range x.d {
			var orbit []int
			for j := range x.d {
				if slices.ContainsFunc(x.perms, func(p []int) bool { return p[i] == j }) {
					orbit = append(orbit, j)
				}
			}
			if !slices.ContainsFunc(want, func(o []int) bool { return slices.Equal(o, orbit) }) {
				want = append(want, orbit)
			}
		}
		if l, e := traces.Orbits(x.g); !reflect.DeepEqual(l, want) || e != api.OK {
			t.Error(x.g, l, want, e)
		}
	}
	for _, x := range []struct{ g, want [][]int }{
		{[][]int{{0}}, [][]int{{0}}},
		{[][]int{{0, 1, 2}}, [][]int{{0}, {1}, {2}}},
		{[][]int{{1, 0, 2, 4, 3}}, [][]int{{0, 1}, {2}, {3, 4}}},
		{[][]int{{3, 1, 2, 0, 4}, {0, 4, 2, 3, 1}}, [][]int{{0, 3}, {1, 4}, {2}}},
		{[][]int{{2, 1, 0, 3, 4}, {4, 1, 2, 3, 0}}, [][]int{{0, 2, 4}, {1}, {3}}},
		{[][]int{{1, 2, 3, 4, 0}}, [][]int{{0, 1, 2, 3, 4}}},
	} {
		if l, e := traces.Orbits(x.g); !reflect.DeepEqual(l, x.want) || e != api.OK {
			t.Error(x.g, l, e)
		}
	}
}

// P7.9: the function that is 1 everywhere is the first one of the table.
func TestSplitOfFixed(t *testing.T) {
	for _, x := range groups() {
		f, _ := traces.Fixed(x.g)
		s, e := traces.Split(x.g, f)
		l, _ := traces.Orbits(x.g)
		if first := rows(t, x)[0]; slices.Min(first) != 1 || slices.Max(first) != 1 {
			t.Error(x.g, first)
		}
		if len(s) == 0 || s[0] != len(l) || e != api.OK {
			t.Error(x.g, f, s, l, e)
		}
	}
}

// colourings returns in how many ways x's numbers can be coloured: of the colourings that elements take to each other, the least one counts.
func colourings(x *group, colours int) int {
	count := 0
	for n := range power(colours, x.d) {
		c := make([]int, x.d)
		for i := x.d - 1; i >= 0; i-- {
			c[i] = n % colours
			n /= colours
		}
		if !slices.ContainsFunc(x.perms, func(p []int) bool { return slices.Compare(after(c, p), c) < 0 }) {
			count++
		}
	}
	return count
}

// P7.5: up to 3 colours for all groups, up to 8 for those of up to 4 numbers and every 20th of 5.
func TestBouquets(t *testing.T) {
	for i, x := range groups() {
		for colours := 0; colours <= 8; colours++ {
			if colours > 3 && x.d == 5 && i%20 != 0 {
				continue
			}
			if n, e := traces.Bouquets(x.g, colours); n != colourings(x, colours) || e != api.OK {
				t.Error(x.g, colours, n, e)
			}
		}
	}
	for _, x := range []struct {
		g             [][]int
		colours, want int
	}{
		{[][]int{{0}}, 0, 0}, {[][]int{{0}}, 1, 1}, {[][]int{{0}}, 8, 8}, {[][]int{{0, 1, 2, 3, 4}}, 8, 32768},
		{[][]int{{1, 2, 0}, {1, 0, 2}}, 2, 4}, {[][]int{{1, 2, 0}}, 2, 4}, {[][]int{{1, 2, 0}}, 3, 11}, {[][]int{{1, 2, 0}, {1, 0, 2}}, 3, 10},
		{[][]int{{1, 2, 3, 0}}, 2, 6}, {[][]int{{1, 2, 3, 0}}, 3, 24}, {[][]int{{1, 2, 3, 4, 0}}, 8, 6560}, {[][]int{{1, 2, 3, 0}, {1, 0, 2, 3}}, 8, 330},
	} {
		if n, e := traces.Bouquets(x.g, x.colours); n != x.want || e != api.OK {
			t.Error(x.g, x.colours, n, e)
		}
	}
}

// P7.11: with all products by permutations alone.
func TestBouquetsAreAverages(t *testing.T) {
	for _, x := range groups() {
		for colours := 0; colours <= 8; colours++ {
			sum := 0
			for _, p := range x.perms {
				sum += power(colours, len(cycleType(p)))
			}
			if n, e := traces.Bouquets(x.g, colours); n*len(x.perms) != sum || e != api.OK {
				t.Error(x.g, colours, n, e)
			}
		}
	}
}

// P7.5: the number of colours is looked at before the size of the group.
func TestBouquetsRefuse(t *testing.T) {
	for _, colours := range append(strange(), 9, 10) {
		for _, g := range append(append(large(), notGenerators()...), [][]int{{0}}, [][]int{{1, 2, 0}}) {
			n, e := traces.Bouquets(g, colours)
			refused(t, n == 0, e, api.ErrArg, g[:min(len(g), 5)], colours)
		}
	}
	for _, g := range large() {
		for colours := 0; colours <= 8; colours++ {
			n, e := traces.Bouquets(g, colours)
			refused(t, n == 0, e, api.ErrSize, g, colours)
		}
	}
}
