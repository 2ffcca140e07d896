package mirror_test

import (
	"fmt"
	"math"
	"slices"
	"sync"
	"testing"

	"corsage/api"
	"corsage/mirror"
)

// world is a group as the document defines it, found by words alone: two words are one element if replacing and leaving out letters leads from one to the other.
type world struct {
	g     mirror.Group
	short [][][]int      // the short words of each element, rising; the elements in order
	index map[string]int // of each short word
	right [][]int        // right[x][s] is the product of x and s
	under [][]bool       // under[u][w] is whether u is below w
}

// worlds returns all groups.
var worlds = sync.OnceValue(func() []*world {
	var all []*world
	for _, g := range groups() {
		all = append(all, newWorld(g))
	}
	return all
})

// measured returns the groups that have polynomials.
func measured() []*world {
	return slices.DeleteFunc(slices.Clone(worlds()), func(o *world) bool { return len(o.short) > 48 })
}

func groups() []mirror.Group {
	var all []mirror.Group
	for n := 1; n <= 4; n++ {
		all = append(all, mirror.Group{Kind: 'A', N: n})
	}
	for n := 2; n <= 3; n++ {
		all = append(all, mirror.Group{Kind: 'B', N: n})
	}
	for n := 2; n <= 12; n++ {
		all = append(all, mirror.Group{Kind: 'I', N: n})
	}
	return all
}

// notGroups are Groups that are no groups.
func notGroups() []mirror.Group {
	return []mirror.Group{{}, {N: 2}, {Kind: 'A'}, {Kind: 'A', N: 5}, {Kind: 'A', N: -1}, {Kind: 'A', N: math.MaxInt}, {Kind: 'A', N: math.MinInt},
		{Kind: 'B'}, {Kind: 'B', N: 1}, {Kind: 'B', N: 4}, {Kind: 'B', N: -2}, {Kind: 'B', N: math.MaxInt}, {Kind: 'B', N: math.MinInt},
		{Kind: 'I'}, {Kind: 'I', N: 1}, {Kind: 'I', N: 13}, {Kind: 'I', N: -2}, {Kind: 'I', N: math.MaxInt}, {Kind: 'I', N: math.MinInt},
		{Kind: 'C', N: 2}, {Kind: 'D', N: 2}, {Kind: 'a', N: 2}, {Kind: 'b', N: 2}, {Kind: 'i', N: 2}, {Kind: 255, N: 2}}
}

// notWords are slices that are no words of g.
func notWords(g mirror.Group) [][]int {
	n := count(g)
	return [][]int{{-1}, {n}, {0, n}, {n, 0}, {0, -1, 0}, {math.MaxInt}, {math.MinInt}, {64}, make([]int, 31), make([]int, 100000), append(make([]int, 29), n)}
}

// count returns how many mirrors g has.
func count(g mirror.Group) int {
	if g.Kind == 'I' {
		return 2
	}
	return g.N
}

// order returns m(i, j).
func order(g mirror.Group, i, j int) int {
	i, j = min(i, j), max(i, j)
	switch {
	case g.Kind == 'I':
		return g.N
	case j != i+1:
		return 2
	case g.Kind == 'B' && j == g.N-1:
		return 4
	}
	return 3
}

// turns returns the words that come from w by replacing i j i .. by j i j .. once.
func turns(g mirror.Group, w []int) [][]int {
	var all [][]int
	for k := 0; k+1 < len(w); k++ {
		i, j := w[k], w[k+1]
		if i == j || k+order(g, i, j) > len(w) {
			continue
		}
		other, fits := slices.Clone(w), true
		for n := range order(g, i, j) {
			fits = fits && w[k+n] == []int{i, j}[n%2]
			other[k+n] = []int{j, i}[n%2]
		}
		if fits {
			all = append(all, other)
		}
	}
	return all
}

// shortWords returns all short words of the element of w, rising.
func shortWords(g mirror.Group, w []int) [][]int {
	all, seen := [][]int{w}, map[string]bool{fmt.Sprint(w): true}
	for k := 0; k < len(all); k++ {
		for n := 0; n+1 < len(w); n++ {
			if all[k][n] == all[k][n+1] {
				return shortWords(g, slices.Concat(all[k][:n], all[k][n+2:]))
			}
		}
		for _, other := range turns(g, all[k]) {
			if !seen[fmt.Sprint(other)] {
				seen[fmt.Sprint(other)] = true
				all = append(all, other)
			}
		}
	}
	slices.SortFunc(all, slices.Compare)
	return all
}

// newWorld finds the elements from the empty word on.
func newWorld(g mirror.Group) *world {
	o := &world{g: g, short: [][][]int{{{}}}, index: map[string]int{"[]": 0}}
	for x := 0; x < len(o.short); x++ {
		for s := range count(g) {
			words := shortWords(g, append(slices.Clone(o.short[x][0]), s))
			if _, met := o.index[fmt.Sprint(words[0])]; !met {
				o.index[fmt.Sprint(words[0])] = len(o.short)
				o.short = append(o.short, words)
			}
		}
	}
	slices.SortFunc(o.short, func(a, b [][]int) int {
		if len(a[0]) != len(b[0]) {
			return len(a[0]) - len(b[0])
		}
		return slices.Compare(a[0], b[0])
	})
	for x, words := range o.short {
		for _, w := range words {
			o.index[fmt.Sprint(w)] = x
		}
	}
	o.right = make([][]int, len(o.short))
	for x, words := range o.short {
		for s := range count(g) {
			o.right[x] = append(o.right[x], o.index[fmt.Sprint(shortWords(g, append(slices.Clone(words[0]), s))[0])])
		}
	}
	o.findUnder()
	return o
}

// findUnder leaves letters out of all short words.
func (o *world) findUnder() {
	o.under = make([][]bool, len(o.short))
	for u := range o.under {
		o.under[u] = make([]bool, len(o.short))
	}
	for w, words := range o.short {
		for _, word := range words {
			left := map[int]bool{0: true}
			for _, s := range word {
				more := map[int]bool{}
				for u := range left {
					more[u], more[o.right[u][s]] = true, true
				}
				left = more
			}
			for u := range left {
				o.under[u][w] = true
			}
		}
	}
}

// normal returns the normal word of x.
func (o *world) normal(x int) []int { return o.short[x][0] }

// follow returns the product of x and the element of w.
func (o *world) follow(x int, w []int) int {
	for _, s := range w {
		x = o.right[x][s]
	}
	return x
}

// back returns the inverse of x.
func (o *world) back(x int) int {
	w := slices.Clone(o.normal(x))
	slices.Reverse(w)
	return o.follow(0, w)
}

// long returns words of up to 30 letters, few of them short: runs with a fixed stride through all mirrors.
func (o *world) long() [][]int {
	var all [][]int
	for length := range 31 {
		for stride := 1; stride < 8; stride++ {
			w := make([]int, length)
			for k := range w {
				w[k] = (k*k*stride/2 + k/stride) % count(o.g)
			}
			all = append(all, w)
		}
	}
	return all
}

func sameWords(a, b [][]int) bool { return slices.EqualFunc(a, b, slices.Equal[[]int]) }

// scribble overwrites a slice and what it could grow into.
func scribble(l []int, n int) {
	for i := range l[:cap(l)] {
		l[:cap(l)][i] = n
	}
}

// scribbled reports whether, after each word is overwritten by a number of its own, all still have theirs.
func scribbled(words [][]int) bool {
	for n, w := range words {
		scribble(w, 100+n)
	}
	for n, w := range words {
		if slices.ContainsFunc(w, func(k int) bool { return k != 100+n }) {
			return false
		}
	}
	return true
}

// P2.1 to P2.7: what is no group or no word.
func TestErrArg(t *testing.T) {
	for _, g := range notGroups() {
		for _, w := range [][]int{nil, {}, {0}, {0, 1}, make([]int, 31)} {
			for name, e := range calls(t, g, w, w) {
				if e != api.ErrArg {
					t.Error(name, g, w, e)
				}
			}
		}
	}
	for _, g := range groups() {
		for _, w := range notWords(g) {
			for name, e := range calls(t, g, w, w) {
				if e != api.ErrArg && name != "All" && name != "Counts" && name != "Longest" {
					t.Error(name, g, w, e)
				}
			}
			for _, pair := range [][2][]int{{w, nil}, {nil, w}, {w, {0}}, {{0}, w}} {
				for name, e := range pairCalls(t, g, pair[0], pair[1]) {
					if e != api.ErrArg {
						t.Error(name, g, pair, e)
					}
				}
			}
		}
	}
}

// calls returns the errors of all functions; with an error, the other result is zero.
func calls(t *testing.T, g mirror.Group, u, w []int) map[string]api.Errno {
	t.Helper()
	errs := pairCalls(t, g, u, w)
	slice := func(name string) func(l []int, e api.Errno) {
		return func(l []int, e api.Errno) {
			errs[name] = e
			if e != api.OK && len(l) != 0 {
				t.Error(name, g, w, l, e)
			}
		}
	}
	slicesOf := func(name string) func(l [][]int, e api.Errno) {
		return func(l [][]int, e api.Errno) {
			errs[name] = e
			if e != api.OK && len(l) != 0 {
				t.Error(name, g, w, l, e)
			}
		}
	}
	number := func(name string) func(n int, e api.Errno) {
		return func(n int, e api.Errno) {
			errs[name] = e
			if e != api.OK && n != 0 {
				t.Error(name, g, w, n, e)
			}
		}
	}
	slice("Normal")(mirror.Normal(g, w))
	slice("Back")(mirror.Back(g, w))
	slice("Counts")(mirror.Counts(g))
	slice("Longest")(mirror.Longest(g))
	slice("Coset")(mirror.Coset(g, w, 1))
	slicesOf("Words")(mirror.Words(g, w))
	slicesOf("All")(mirror.All(g))
	slicesOf("Covers")(mirror.Covers(g, w))
	number("Length")(mirror.Length(g, w))
	number("Falls")(mirror.Falls(g, w))
	number("Leave")(mirror.Leave(g, w, 0))
	return errs
}

// pairCalls returns the errors of the functions of two words.
func pairCalls(t *testing.T, g mirror.Group, u, w []int) map[string]api.Errno {
	t.Helper()
	errs := map[string]api.Errno{}
	product, e1 := mirror.Times(g, u, w)
	below, e2 := mirror.Below(g, u, w)
	r, e3 := mirror.R(g, u, w)
	p, e4 := mirror.P(g, u, w)
	errs["Times"], errs["Below"], errs["R"], errs["P"] = e1, e2, e3, e4
	if e1 != api.OK && len(product) != 0 || e2 != api.OK && below || e3 != api.OK && len(r) != 0 || e4 != api.OK && len(p) != 0 {
		t.Error(g, u, w, product, below, r, p)
	}
	return errs
}
