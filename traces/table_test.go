package traces_test

import (
	"reflect"
	"slices"
	"testing"

	"corsage/api"
	"corsage/schur"
	"corsage/traces"
)

// P7.2, P7.8: what the document asks of the table, for all groups.
func TestTable(t *testing.T) {
	for _, x := range groups() {
		l, e := traces.Table(x.g)
		if len(l) != len(x.classes) || e != api.OK {
			t.Error(x.g, l, e)
			continue
		}
		if !slices.IsSortedFunc(l, slices.Compare[[]int]) {
			t.Error(x.g, l)
		}
		pairs := x.pairs()
		for i, f := range l {
			if len(f) != len(x.classes) || slices.Min(f) < 0 || slices.Max(f) >= x.q || !x.isRow(pairs, f) || len(x.perms)%f[0] != 0 {
				t.Error(x.g, f)
			}
			for _, h := range l[:i] {
				if x.product(f, h) != 0 || x.product(h, f) != 0 {
					t.Error(x.g, f, h)
				}
			}
		}
	}
}

// P7.8: the columns.
func TestColumns(t *testing.T) {
	for _, x := range groups() {
		l := rows(t, x)
		for c := range x.classes {
			for d := range x.classes {
				sum, want := 0, 0
				for _, f := range l {
					sum += f[c] * f[x.backClass(d)]
				}
				if c == d {
					want = len(x.perms) / len(x.classes[c])
				}
				if sum%x.q != want%x.q {
					t.Error(x.g, c, d, sum, want)
				}
			}
		}
		squares := 0
		for _, f := range l {
			squares += f[0] * f[0]
		}
		if squares != len(x.perms) {
			t.Error(x.g, l)
		}
	}
}

// P7.2: of all functions, just those of the table are such; one group of each kind.
func TestTableIsAll(t *testing.T) {
	seen := map[string]bool{}
	for _, x := range groups() {
		if seen[x.kind()] {
			continue
		}
		seen[x.kind()] = true
		pairs := x.pairs()
		var want [][]int
		for n := range power(x.q, len(x.classes)-1) {
			f := make([]int, len(x.classes))
			for c := len(f) - 1; c > 0; c-- {
				f[c] = n % x.q
				n /= x.q
			}
			for f[0] = 1; f[0]*f[0] <= len(x.perms); f[0]++ {
				if x.isRow(pairs, f) {
					want = append(want, slices.Clone(f))
				}
			}
		}
		slices.SortFunc(want, slices.Compare[[]int])
		if l := rows(t, x); !reflect.DeepEqual(l, want) {
			t.Error(x.g, l, want)
		}
	}
}

// P7.2
func TestTableOfSome(t *testing.T) {
	for _, x := range []struct{ g, want [][]int }{
		{[][]int{{0}}, [][]int{{1}}},
		{[][]int{{0, 1, 2, 3, 4}}, [][]int{{1}}},
		{[][]int{{1, 0}}, [][]int{{1, 1}, {1, 2}}},
		{[][]int{{1, 2, 0}}, [][]int{{1, 1, 1}, {1, 2, 4}, {1, 4, 2}}},
		{[][]int{{1, 2, 0}, {1, 0, 2}}, [][]int{{1, 1, 1}, {1, 6, 1}, {2, 0, 6}}},
		{[][]int{{1, 2, 3, 0}}, [][]int{{1, 1, 1, 1}, {1, 2, 4, 3}, {1, 3, 4, 2}, {1, 4, 1, 4}}},
		{[][]int{{1, 0, 3, 2}, {2, 3, 0, 1}}, [][]int{{1, 1, 1, 1}, {1, 1, 4, 4}, {1, 4, 1, 4}, {1, 4, 4, 1}}},
		// classes: none, two mirrors, two others, turning by a quarter, by a half
		{[][]int{{1, 2, 3, 0}, {0, 3, 2, 1}}, [][]int{{1, 1, 1, 1, 1}, {1, 1, 12, 12, 1}, {1, 12, 1, 12, 1}, {1, 12, 12, 1, 1}, {2, 0, 0, 0, 11}}},
		// modulo 13 the third roots of 1 are 1, 3 and 9
		{[][]int{{1, 2, 0, 3}, {0, 2, 3, 1}}, [][]int{{1, 1, 1, 1}, {1, 3, 9, 1}, {1, 9, 3, 1}, {3, 0, 0, 12}}},
		// modulo 11 the fifth roots of 1 are 1, 3, 4, 5 and 9; 4 + 3 is 7, 5 + 9 is 3; the mirrors lie between turnings by 1 and 2
		{[][]int{{1, 2, 3, 4, 0}, {0, 4, 3, 2, 1}}, [][]int{{1, 1, 1, 1}, {1, 10, 1, 1}, {2, 0, 3, 7}, {2, 0, 7, 3}}},
		// classes: none, two, three, two and two, four
		{[][]int{{1, 2, 3, 0}, {1, 0, 2, 3}}, [][]int{{1, 1, 1, 1, 1}, {1, 36, 1, 1, 36}, {2, 0, 36, 2, 0}, {3, 1, 0, 36, 36}, {3, 36, 0, 36, 1}}},
	} {
		if l, e := traces.Table(x.g); !reflect.DeepEqual(l, x.want) || e != api.OK {
			t.Error(x.g, l, e)
		}
	}
}

// shapes returns all shapes of n boxes with rows of up to most.
func shapes(n, most int) [][]int {
	if n == 0 {
		return [][]int{nil}
	}
	var list [][]int
	for k := 1; k <= min(n, most); k++ {
		for _, l := range shapes(n-k, k) {
			list = append(list, append([]int{k}, l...))
		}
	}
	return list
}

// cycleType returns the lengths of the cycles of p, falling.
func cycleType(p []int) []int {
	var list []int
	for i := range p {
		length, least := 1, i
		for j := p[i]; j != i; j = p[j] {
			length++
			least = min(least, j)
		}
		if least == i {
			list = append(list, length)
		}
	}
	slices.Sort(list)
	slices.Reverse(list)
	return list
}

// P7.2, P3: the table of all permutations of up to 4 numbers has the characters of shapes.
func TestTableOfShapes(t *testing.T) {
	for d := 1; d <= 4; d++ {
		turn, swap := []int{}, []int{}
		for i := range d {
			turn = append(turn, (i+1)%d)
			swap = append(swap, i)
		}
		if d > 1 {
			swap[0], swap[1] = 1, 0
		}
		g := [][]int{turn, swap}
		elements, _ := traces.Elements(g)
		classes, _ := traces.Classes(g)
		q, _ := traces.Prime(g)
		var want [][]int
		for _, shape := range shapes(d, d) {
			var f []int
			for _, class := range classes {
				n, e := schur.Char(shape, cycleType(elements[class[0]]))
				if e != api.OK {
					t.Error(shape, e)
				}
				f = append(f, (n+q)%q)
			}
			want = append(want, f)
		}
		slices.SortFunc(want, slices.Compare[[]int])
		if l, e := traces.Table(g); !reflect.DeepEqual(l, want) || e != api.OK {
			t.Error(d, l, want, e)
		}
	}
}

// P7.12
func TestAbelian(t *testing.T) {
	abelian := 0
	for _, x := range groups() {
		ones := true
		for _, f := range rows(t, x) {
			ones = ones && f[0] == 1
		}
		if ones != x.isAbelian() {
			t.Error(x.g, ones)
		}
		if ones {
			abelian++
		}
	}
	// of 5 numbers: 1 with one element, 25 with two, 10 with three, 35 with four, 6 with five and 10 with six
	if abelian != 1+2+5+21+87 {
		t.Error(abelian)
	}
}

// P7.3
func TestProduct(t *testing.T) {
	d := dice{seed: 3}
	for _, x := range groups() {
		list := d.functions(x)
		for _, f := range list {
			for _, h := range list {
				if n, e := traces.Product(x.g, f, h); n != x.product(f, h) || e != api.OK {
					t.Error(x.g, f, h, n, e)
				}
			}
		}
	}
	for _, x := range []struct {
		g    [][]int
		f, h []int
		want int
	}{
		{[][]int{{0}}, []int{1}, []int{1}, 1},
		{[][]int{{0}}, []int{1}, []int{0}, 0},
		{[][]int{{1, 2, 0}}, []int{1, 2, 4}, []int{1, 4, 2}, 0},
		{[][]int{{1, 2, 0}}, []int{1, 2, 4}, []int{1, 2, 4}, 1},
		// 3 times 6 and 2 times 6 are 30, which is 2 modulo 7, and divided by 6 it is 5
		{[][]int{{1, 2, 0}, {1, 0, 2}}, []int{0, 1, 1}, []int{5, 6, 6}, 5},
	} {
		if n, e := traces.Product(x.g, x.f, x.h); n != x.want || e != api.OK {
			t.Error(x, n, e)
		}
	}
}

// P7.2, P7.8: what Product says of the table.
func TestProductOfTable(t *testing.T) {
	for _, x := range groups() {
		l := rows(t, x)
		for i, f := range l {
			for k, h := range l {
				n, e := traces.Product(x.g, f, h)
				if i == k && n != 1 || i != k && n != 0 || e != api.OK {
					t.Error(x.g, f, h, n, e)
				}
			}
		}
	}
}

// P7.3
func TestSplit(t *testing.T) {
	d := dice{seed: 4}
	for _, x := range groups() {
		l := rows(t, x)
		for _, f := range d.functions(x) {
			var want []int
			for _, h := range l {
				want = append(want, x.product(h, f))
			}
			if s, e := traces.Split(x.g, f); !slices.Equal(s, want) || e != api.OK {
				t.Error(x.g, f, s, want, e)
			}
		}
	}
	if s, e := traces.Split([][]int{{1, 2, 0}, {1, 0, 2}}, []int{3, 1, 0}); !slices.Equal(s, []int{1, 0, 1}) || e != api.OK {
		t.Error(s, e)
	}
	// not the same as at the inverse classes
	if s, e := traces.Split([][]int{{1, 2, 0}}, []int{1, 2, 4}); !slices.Equal(s, []int{0, 1, 0}) || e != api.OK {
		t.Error(s, e)
	}
}

// P7.9
func TestSplitIsSum(t *testing.T) {
	d := dice{seed: 5}
	for _, x := range groups() {
		l := rows(t, x)
		for _, f := range d.functions(x) {
			s, e := traces.Split(x.g, f)
			if len(s) != len(l) || e != api.OK {
				t.Error(x.g, f, s, e)
				continue
			}
			for c := range f {
				sum := 0
				for i, h := range l {
					sum += s[i] * h[c]
				}
				if sum%x.q != f[c] {
					t.Error(x.g, f, s, c)
				}
			}
		}
	}
}

// P7.9: products of two of the table, value by value. The numbers tell how often the table is in it, so the degrees agree also without a prime.
func TestSplitOfTwo(t *testing.T) {
	for _, x := range groups() {
		l := rows(t, x)
		for _, f := range l {
			for _, h := range l {
				var fh []int
				for c := range f {
					fh = append(fh, f[c]*h[c]%x.q)
				}
				s, e := traces.Split(x.g, fh)
				if len(s) != len(l) || e != api.OK {
					t.Error(x.g, f, h, s, e)
					continue
				}
				degree := 0
				for i, n := range s {
					if n > min(f[0], h[0]) {
						t.Error(x.g, f, h, s)
					}
					degree += n * l[i][0]
				}
				if degree != f[0]*h[0] {
					t.Error(x.g, f, h, s)
				}
			}
		}
	}
}

// P7.3, P7.7: what is no function is refused in each place.
func TestNotFunctions(t *testing.T) {
	for _, x := range groups() {
		one := slices.Repeat([]int{1}, len(x.classes))
		for _, f := range notFunctions(x) {
			for _, two := range [][2][]int{{f, one}, {one, f}, {f, f}} {
				n, e := traces.Product(x.g, two[0], two[1])
				refused(t, n == 0, e, api.ErrArg, x.g, two)
			}
			s, e := traces.Split(x.g, f)
			refused(t, len(s) == 0, e, api.ErrArg, x.g, f)
			l, e := traces.Kernel(x.g, f)
			refused(t, len(l) == 0, e, api.ErrArg, x.g, f)
		}
	}
}

// P7.7
func TestKernel(t *testing.T) {
	d := dice{seed: 8}
	for _, x := range groups() {
		list := rows(t, x)
		for _, f := range list {
			var want []int
			for c := range f {
				if f[c] == f[0] {
					want = append(want, c)
				}
			}
			if l, e := traces.Kernel(x.g, f); !slices.Equal(l, want) || e != api.OK {
				t.Error(x.g, f, l, want, e)
			}
		}
		// functions, but not of the table
		for _, f := range d.functions(x) {
			if !slices.ContainsFunc(list, func(h []int) bool { return slices.Equal(f, h) }) {
				l, e := traces.Kernel(x.g, f)
				refused(t, len(l) == 0, e, api.ErrArg, x.g, f, l)
			}
		}
	}
	three := [][]int{{1, 2, 0}, {1, 0, 2}}
	for _, x := range []struct{ f, want []int }{{[]int{1, 1, 1}, []int{0, 1, 2}}, {[]int{1, 6, 1}, []int{0, 2}}, {[]int{2, 0, 6}, []int{0}}} {
		if l, e := traces.Kernel(three, x.f); !slices.Equal(l, x.want) || e != api.OK {
			t.Error(x, l, e)
		}
	}
	for _, f := range [][]int{{1, 6, 6}, {0, 0, 0}, {2, 2, 2}, {3, 1, 0}, {5, 0, 1}, {6, 6, 6}} {
		l, e := traces.Kernel(three, f)
		refused(t, len(l) == 0, e, api.ErrArg, f, l)
	}
}
