package traces_test

import (
	"math"
	"slices"
	"strconv"
	"sync"
	"testing"

	"corsage/api"
	"corsage/traces"
)

// all is the group of all permutations of d numbers, rising.
type all struct {
	d     int
	perms [][]int
	times [][]int // times[a][b] is which one the product of perms[a] and perms[b] is
}

// after returns the product of a and b.
func after(a, b []int) []int {
	var ab []int
	for _, x := range b {
		ab = append(ab, a[x])
	}
	return ab
}

// orders returns all permutations of d numbers, rising: of all slices of d numbers below d, those in which no two are the same.
func orders(d int) [][]int {
	var list [][]int
	for x := range power(d, d) {
		p := make([]int, d)
		seen := 0
		for i := d - 1; i >= 0; i-- {
			p[i] = x % d
			x /= d
			seen |= 1 << p[i]
		}
		if seen == 1<<d-1 {
			list = append(list, p)
		}
	}
	return list
}

// everything returns the groups of all permutations of 1 to 5 numbers, by how many.
var everything = sync.OnceValue(func() []all {
	list := []all{{}}
	for d := 1; d <= 5; d++ {
		a := all{d: d, perms: orders(d)}
		for _, p := range a.perms {
			var row []int
			for _, r := range a.perms {
				row = append(row, a.rank(after(p, r)))
			}
			a.times = append(a.times, row)
		}
		list = append(list, a)
	}
	return list
})

// rank returns which of all permutations p is.
func (a all) rank(p []int) int {
	i, _ := slices.BinarySearchFunc(a.perms, p, slices.Compare[[]int])
	return i
}

// generated returns which permutations the products of these ones are, rising.
func (a all) generated(by []int) []int {
	in := make([]bool, len(a.perms))
	var list []int
	add := func(x int) {
		if !in[x] {
			in[x] = true
			list = append(list, x)
		}
	}
	for _, x := range by {
		add(x)
	}
	for before := 0; before < len(list); {
		before = len(list)
		for i := range before {
			for j := range before {
				add(a.times[list[i]][list[j]])
			}
		}
	}
	slices.Sort(list)
	return list
}

// pick returns these permutations, in new memory.
func (a all) pick(which []int) [][]int {
	var list [][]int
	for _, x := range which {
		list = append(list, slices.Clone(a.perms[x]))
	}
	return list
}

// group is a group that the tests have found for themselves.
type group struct {
	d       int
	g       [][]int // generators
	members []int   // which of all permutations of d numbers
	perms   [][]int
	times   [][]int
	back    []int // the inverse elements
	classes [][]int
	classOf []int
	q       int
}

// newGroup returns the group of permutations of a that these ones generate.
func newGroup(a all, by []int) *group {
	x := &group{d: a.d, g: a.pick(by), members: a.generated(by)}
	x.perms = a.pick(x.members)
	for _, b := range x.members {
		var row []int
		for _, c := range x.members {
			row = append(row, slices.Index(x.members, a.times[b][c]))
		}
		x.times = append(x.times, row)
		x.back = append(x.back, slices.Index(row, 0))
	}
	x.classOf = make([]int, len(x.perms))
	for b := range x.perms {
		var class []int
		for c := range x.perms {
			class = append(class, x.times[x.times[c][b]][x.back[c]])
		}
		slices.Sort(class)
		class = slices.Compact(class)
		if class[0] == b {
			for _, c := range class {
				x.classOf[c] = len(x.classes)
			}
			x.classes = append(x.classes, class)
		}
	}
	x.q = x.prime()
	return x
}

// order returns the least power of b, from the first on, that moves nothing.
func (x *group) order(b int) int {
	p := x.perms[b]
	for n := 1; ; n++ {
		if slices.IsSorted(p) {
			return n
		}
		p = after(x.perms[b], p)
	}
}

// prime returns the first of some primes that fits.
func (x *group) prime() int {
	for _, q := range []int{2, 3, 5, 7, 11, 13, 17, 19, 23, 29, 31, 37, 41, 43, 47} {
		fits := q > len(x.perms) && q > x.d
		for b := range x.perms {
			fits = fits && q%x.order(b) == 1%x.order(b)
		}
		if fits {
			return q
		}
	}
	return 0
}

// backClass returns the class of the inverse elements of class c.
func (x *group) backClass(c int) int { return x.classOf[x.back[x.classes[c][0]]] }

// product returns the product of f and h: a sum over all elements, without dividing by a number.
func (x *group) product(f, h []int) int {
	sum := 0
	for b := range x.perms {
		sum += f[x.classOf[b]] * h[x.classOf[x.back[b]]]
	}
	for p := range x.q {
		if p*len(x.perms)%x.q == sum%x.q {
			return p
		}
	}
	return -1
}

// pairs returns, for each three classes, how many pairs of elements of the first two have a product of the third.
func (x *group) pairs() [][][]int {
	count := make([][][]int, len(x.classes))
	for c := range count {
		for range x.classes {
			count[c] = append(count[c], make([]int, len(x.classes)))
		}
	}
	for a, row := range x.times {
		for b, ab := range row {
			count[x.classOf[a]][x.classOf[b]][x.classOf[ab]]++
		}
	}
	return count
}

// isRow reports whether t meets what the document asks of each function of the table alone; pairs are those of x.
func (x *group) isRow(pairs [][][]int, t []int) bool {
	if t[0] < 1 || t[0]*t[0] > len(x.perms) {
		return false
	}
	for c := range t {
		for d := range t {
			sum := 0
			for e, n := range pairs[c][d] {
				sum += n * t[e]
			}
			if (len(x.classes[c])*t[c]*len(x.classes[d])*t[d]-t[0]*sum)%x.q != 0 {
				return false
			}
		}
	}
	return x.product(t, t) == 1
}

// isAbelian reports whether any two elements have the same product in both orders.
func (x *group) isAbelian() bool {
	for a := range x.perms {
		for b := range x.perms {
			if x.times[a][b] != x.times[b][a] {
				return false
			}
		}
	}
	return true
}

// kind tells groups from each other that differ in their size or the orders in their classes.
func (x *group) kind() string {
	var list []string
	for _, class := range x.classes {
		list = append(list, strconv.Itoa(len(class))+":"+strconv.Itoa(x.order(class[0])))
	}
	slices.Sort(list)
	key := strconv.Itoa(x.q)
	for _, s := range list {
		key += " " + s
	}
	return key
}

// found returns all groups of permutations of d numbers, each generated by two.
func found(d int) []*group {
	a := everything()[d]
	seen := map[string]bool{}
	var list []*group
	for b := range a.perms {
		for c := b; c < len(a.perms); c++ {
			in := make([]byte, len(a.perms))
			for _, x := range a.generated([]int{b, c}) {
				in[x] = 1
			}
			if !seen[string(in)] {
				seen[string(in)] = true
				list = append(list, newGroup(a, []int{b, c}))
			}
		}
	}
	return list
}

// foundAll returns all groups, by how many numbers they permute, also those that are too large.
var foundAll = sync.OnceValue(func() [][]*group {
	list := [][]*group{nil}
	for d := 1; d <= 5; d++ {
		list = append(list, found(d))
	}
	return list
})

// groups returns all groups that are not too large.
func groups() []*group {
	var list []*group
	for _, x := range slices.Concat(foundAll()...) {
		if len(x.perms) <= 24 {
			list = append(list, x)
		}
	}
	return list
}

// large returns generators of the groups that are too large.
func large() [][][]int {
	var list [][][]int
	for _, x := range slices.Concat(foundAll()...) {
		if len(x.perms) > 24 {
			list = append(list, x.g)
		}
	}
	return append(list, [][]int{{1, 2, 3, 4, 0}, {1, 0, 2, 3, 4}}, [][]int{{1, 2, 3, 4, 0}, {0, 1, 3, 4, 2}}, [][]int{{1, 0, 2, 3, 4}, {0, 2, 1, 3, 4}, {0, 1, 3, 2, 4}, {0, 1, 2, 4, 3}})
}

// rows returns the table of x, which must be there.
func rows(t *testing.T, x *group) [][]int {
	t.Helper()
	list, e := traces.Table(x.g)
	if len(list) != len(x.classes) || e != api.OK {
		t.Fatal(x.g, list, e)
	}
	return list
}

func power(n, k int) int {
	p := 1
	for range k {
		p *= n
	}
	return p
}

// dice gives the same numbers in every run.
type dice struct{ seed uint64 }

func (d *dice) below(n int) int {
	d.seed = d.seed*6364136223846793005 + 1442695040888963407
	return int(d.seed >> 33 % uint64(n))
}

// function returns a function of x.
func (d *dice) function(x *group) []int {
	var f []int
	for range x.classes {
		f = append(f, d.below(x.q))
	}
	return f
}

// functions returns the function that is 0 everywhere, the greatest one, those that are 1 at one class alone, and some others.
func (d *dice) functions(x *group) [][]int {
	list := [][]int{make([]int, len(x.classes)), slices.Repeat([]int{x.q - 1}, len(x.classes))}
	for c := range x.classes {
		f := make([]int, len(x.classes))
		f[c] = 1
		list = append(list, f)
	}
	for range 5 {
		list = append(list, d.function(x))
	}
	return list
}

// strange are numbers that are in no permutation or function, and no number of colours.
func strange() []int {
	return []int{-1, -2, -37, 64, 1 << 16, 1 << 32, 1<<32 + 1, math.MaxInt, math.MaxInt - 1, math.MinInt, math.MinInt + 1}
}

// notGenerators are slices that generate no group.
func notGenerators() [][][]int {
	list := [][][]int{nil, {}, {nil}, {{}}, {{}, {}}, {{0}, nil}, {{}, {0}}, {{0}, {0, 1}}, {{0, 1}, {0}}, {{1}}, {{0, 0}}, {{1, 1}}, {{0, 2}}, {{1, 2}}, {{0, 1, 1}},
		{{1, 0}, {0, 0}}, {{1, 2, 0}, {1, 0, 2}, {0, 2, 1}, {2, 2, 2}}, {{1, 2, 0}, {1, 0}},
		{{0}, {0}, {0}, {0}, {0}}, {{1, 0}, {1, 0}, {1, 0}, {1, 0}, {1, 0}}, make([][]int, 4), make([][]int, 100000),
		{{0, 1, 2, 3, 4, 5}}, {{1, 2, 3, 4, 5, 0}}, {{0, 1, 2, 3, 4}, {0, 1, 2, 3, 4, 5}}, {make([]int, 100000)},
		// what would be too large if the last one were a permutation
		{{1, 2, 3, 4, 0}, {1, 0, 2, 3, 4}, {0, 1, 2, 3, 5}}, {{1, 2, 3, 4, 0}, {1, 0, 2, 3, 4}, {0, 1, 2, 3}}, {{1, 2, 3, 4, 0}, {1, 0, 2, 3, 4}, {0, 1, 2, 3, 4}, {0, 1, 2, 3, 3}}}
	for d := 1; d <= 5; d++ {
		good := everything()[d].perms[0]
		for i := range d {
			for _, n := range append(strange(), d) {
				bad := slices.Clone(good)
				bad[i] = n
				list = append(list, [][]int{bad}, [][]int{good, bad}, [][]int{bad, good, good, good})
			}
		}
	}
	return list
}

// call is a call of a function with generators; it returns whether every other result is its zero value.
type call struct {
	name string
	with func(g [][]int) (zero bool, e api.Errno)
}

// calls returns calls of all functions, with f, h and a number of colours where they are asked for.
func calls(f, h []int, colours int) []call {
	lists := func(name string, ask func(g [][]int) ([][]int, api.Errno)) call {
		return call{name, func(g [][]int) (bool, api.Errno) {
			l, e := ask(g)
			return len(l) == 0, e
		}}
	}
	list := func(name string, ask func(g [][]int) ([]int, api.Errno)) call {
		return call{name, func(g [][]int) (bool, api.Errno) {
			l, e := ask(g)
			return len(l) == 0, e
		}}
	}
	number := func(name string, ask func(g [][]int) (int, api.Errno)) call {
		return call{name, func(g [][]int) (bool, api.Errno) {
			n, e := ask(g)
			return n == 0, e
		}}
	}
	return []call{
		lists("Elements", traces.Elements), lists("Classes", traces.Classes), number("Prime", traces.Prime), lists("Table", traces.Table),
		number("Product", func(g [][]int) (int, api.Errno) { return traces.Product(g, f, h) }),
		list("Split", func(g [][]int) ([]int, api.Errno) { return traces.Split(g, f) }),
		list("Fixed", traces.Fixed), lists("Orbits", traces.Orbits),
		number("Bouquets", func(g [][]int) (int, api.Errno) { return traces.Bouquets(g, colours) }),
		lists("Normal", traces.Normal),
		list("Kernel", func(g [][]int) ([]int, api.Errno) { return traces.Kernel(g, f) }),
	}
}

// notFunctions are slices that are no functions of x.
func notFunctions(x *group) [][]int {
	one := slices.Repeat([]int{1}, len(x.classes))
	list := [][]int{nil, {}, one[1:], append(slices.Clone(one), 1), append(slices.Clone(one), 0), make([]int, 100), make([]int, 100000)}
	for c := range x.classes {
		for _, n := range append(strange(), x.q, x.q+1) {
			bad := slices.Clone(one)
			bad[c] = n
			list = append(list, bad)
		}
	}
	return list
}

// refused checks an error and that the other result is its zero value.
func refused(t *testing.T, zero bool, e, want api.Errno, about ...any) {
	t.Helper()
	if !zero || e != want {
		t.Error(about, zero, e, want)
	}
}

// What the other tests rely on is right.
func TestHelp(t *testing.T) {
	for d, want := range []int{0, 1, 2, 6, 30, 156} {
		if n := len(foundAll()[d]); n != want {
			t.Error(d, n)
		}
	}
	if n := len(groups()); n != 1+2+6+30+154 {
		t.Error(n)
	}
	kinds := map[string]bool{}
	for _, x := range groups() {
		kinds[x.kind()] = true
		if x.q == 0 {
			t.Error(x.g)
		}
		if !x.isRow(x.pairs(), slices.Repeat([]int{1}, len(x.classes))) {
			t.Error(x.g)
		}
	}
	if len(kinds) != 21 {
		t.Error(len(kinds))
	}
	if p := after([]int{1, 2, 0}, []int{1, 0, 2}); !slices.Equal(p, []int{2, 1, 0}) {
		t.Error(p)
	}
}
