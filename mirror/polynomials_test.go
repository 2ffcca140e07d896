package mirror_test

import (
	"math"
	"slices"
	"testing"

	"corsage/api"
	"corsage/mirror"
)

// P2.7
func TestPolynomialExamples(t *testing.T) {
	a2, a3, b3, i5 := mirror.Group{Kind: 'A', N: 2}, mirror.Group{Kind: 'A', N: 3}, mirror.Group{Kind: 'B', N: 3}, mirror.Group{Kind: 'I', N: 5}
	for _, x := range []struct {
		g    mirror.Group
		u, w []int
		r, p []int
	}{
		{a3, []int{1}, []int{1, 0, 2, 1}, []int{-1, 3, -3, 1}, []int{1, 1}},
		{a3, nil, []int{1, 0, 2, 1}, []int{1, -3, 4, -3, 1}, []int{1, 1}},
		{a3, []int{0, 2}, []int{0, 2, 1, 2, 0}, []int{-1, 3, -3, 1}, []int{1, 1}},
		{a3, []int{0}, []int{0, 1}, []int{-1, 1}, []int{1}},
		{a3, []int{0, 1}, []int{0}, nil, nil},
		{a3, []int{0}, []int{1}, nil, nil},
		{a3, []int{0}, []int{1, 2}, nil, nil},
		{a3, nil, nil, []int{1}, []int{1}},
		{a3, []int{1, 1, 0}, []int{0, 2, 2}, []int{1}, []int{1}},
		{a2, nil, []int{1, 0, 1}, []int{-1, 2, -2, 1}, []int{1}},
		{a2, nil, []int{0, 1}, []int{1, -2, 1}, []int{1}},
		{i5, nil, []int{0, 1, 0}, []int{-1, 2, -2, 1}, []int{1}},
		{b3, []int{1}, []int{1, 0, 2, 1}, []int{-1, 3, -3, 1}, []int{1, 1}},
	} {
		r, e1 := mirror.R(x.g, x.u, x.w)
		p, e2 := mirror.P(x.g, x.u, x.w)
		if !slices.Equal(r, x.r) || !slices.Equal(p, x.p) || e1 != api.OK || e2 != api.OK {
			t.Error(x, r, p, e1, e2)
		}
	}
}

// P2.7: the group with 48 elements is measured, the one with 120 is not; ErrArg precedes ErrSize.
func TestPolynomialSizes(t *testing.T) {
	a4 := mirror.Group{Kind: 'A', N: 4}
	for _, polynomial := range []func(g mirror.Group, u, w []int) ([]int, api.Errno){mirror.R, mirror.P} {
		for _, pair := range [][2][]int{{nil, nil}, {{0}, {0}}, {{0}, {1}}, {nil, {3, 2, 1, 0}}, {make([]int, 30), {3}}} {
			if f, e := polynomial(a4, pair[0], pair[1]); len(f) != 0 || e != api.ErrSize {
				t.Error(pair, f, e)
			}
		}
		for _, w := range [][]int{{4}, {-1}, {math.MaxInt}, make([]int, 31)} {
			for _, pair := range [][2][]int{{w, nil}, {nil, w}} {
				if f, e := polynomial(a4, pair[0], pair[1]); len(f) != 0 || e != api.ErrArg {
					t.Error(pair, f, e)
				}
			}
		}
		for _, g := range []mirror.Group{{Kind: 'B', N: 3}, {Kind: 'I', N: 12}, {Kind: 'A', N: 3}} {
			if f, e := polynomial(g, nil, []int{0, 0}); !slices.Equal(f, []int{1}) || e != api.OK {
				t.Error(g, f, e)
			}
		}
	}
}

// table returns a polynomial of all pairs of elements, by different words of them.
func table(t *testing.T, o *world, polynomial func(g mirror.Group, u, w []int) ([]int, api.Errno)) [][][]int {
	t.Helper()
	all := make([][][]int, len(o.short))
	for u, words := range o.short {
		for w := range o.short {
			f, e := polynomial(o.g, words[len(words)-1], slices.Concat([]int{0, 0}, o.normal(w)))
			if e != api.OK || len(f) > 0 && f[len(f)-1] == 0 {
				t.Fatal(o.g, words[0], o.normal(w), f, e)
			}
			all[u] = append(all[u], f)
		}
	}
	return all
}

// add adds c q^n f to sum.
func add(sum, f []int, c, n int) {
	for k, d := range f {
		sum[k+n] += c * d
	}
}

// polySize is more than any polynomial of the tests has coefficients.
const polySize = 40

// same reports whether f has the coefficients of sum.
func same(f, sum []int) bool {
	return slices.Equal(append(slices.Clone(f), make([]int, polySize-len(f))...), sum)
}

// P2.7, by its definition.
func TestR(t *testing.T) {
	for _, o := range measured() {
		rs := table(t, o, mirror.R)
		for u := range o.short {
			for w := range o.short {
				want := make([]int, polySize)
				switch {
				case u == w:
					want[0] = 1
				case o.under[u][w]:
					s := o.normal(w)[len(o.normal(w))-1]
					us, ws := o.right[u][s], o.right[w][s]
					if us < u {
						add(want, rs[us][ws], 1, 0)
					} else {
						add(want, rs[u][ws], -1, 0)
						add(want, rs[u][ws], 1, 1)
						add(want, rs[us][ws], 1, 1)
					}
				}
				if !same(rs[u][w], want) {
					t.Error(o.g, o.normal(u), o.normal(w), rs[u][w], want)
				}
			}
		}
	}
}

// P2.7, by its definition: there is just one such P. P2.13: its coefficients.
func TestP(t *testing.T) {
	for _, o := range measured() {
		rs, ps := table(t, o, mirror.R), table(t, o, mirror.P)
		for u := range o.short {
			for w := range o.short {
				checkP(t, o, rs, ps, u, w)
			}
		}
	}
}

func checkP(t *testing.T, o *world, rs, ps [][][]int, u, w int) {
	t.Helper()
	p, n := ps[u][w], len(o.normal(w))-len(o.normal(u))
	if !o.under[u][w] {
		if len(p) != 0 {
			t.Error(o.g, o.normal(u), o.normal(w), p)
		}
		return
	}
	if len(p) == 0 || p[0] != 1 || slices.Min(p) < 0 || n > 0 && 2*(len(p)-1) > n-1 || n == 0 && len(p) != 1 {
		t.Fatal(o.g, o.normal(u), o.normal(w), p)
	}
	left, right := make([]int, polySize), make([]int, polySize)
	for k, c := range p {
		left[n-k] = c
	}
	for x := range o.short {
		if o.under[u][x] && o.under[x][w] {
			for k, c := range rs[u][x] {
				add(right, ps[x][w], c, k)
			}
		}
	}
	if !slices.Equal(left, right) {
		t.Error(o.g, o.normal(u), o.normal(w), p, left, right)
	}
}

// P2.13: where P is 1, and that it does not change with the mirrors of Falls.
func TestPIsOneOrStays(t *testing.T) {
	for _, o := range measured() {
		ps := table(t, o, mirror.P)
		for u := range o.short {
			for w := range o.short {
				small := o.g.Kind == 'I' || o.g.Kind == 'A' && o.g.N <= 2 || len(o.normal(w))-len(o.normal(u)) <= 2
				if o.under[u][w] && small && !slices.Equal(ps[u][w], []int{1}) {
					t.Error(o.g, o.normal(u), o.normal(w), ps[u][w])
				}
				falls, e := mirror.Falls(o.g, o.normal(w))
				if e != api.OK {
					t.Fatal(o.g, e)
				}
				for s, us := range o.right[u] {
					if falls>>s&1 == 1 && !slices.Equal(ps[u][w], ps[us][w]) {
						t.Error(o.g, o.normal(u), o.normal(w), s, ps[u][w], ps[us][w])
					}
				}
			}
		}
	}
}

// P2.7: of kind 'A' with three mirrors, just six pairs have another P than 1.
func TestPsOfA3(t *testing.T) {
	for _, o := range measured() {
		if o.g != (mirror.Group{Kind: 'A', N: 3}) {
			continue
		}
		others := 0
		for _, row := range table(t, o, mirror.P) {
			for _, p := range row {
				if len(p) > 1 {
					others++
				}
				if len(p) > 1 && !slices.Equal(p, []int{1, 1}) {
					t.Error(p)
				}
			}
		}
		if others != 6 {
			t.Error(others)
		}
	}
}

// P2.7: results are new memory, and arguments stay.
func TestPolynomialsShareNothing(t *testing.T) {
	g, u, w := mirror.Group{Kind: 'B', N: 3}, []int{1}, []int{1, 0, 2, 1}
	for range 2 {
		r, _ := mirror.R(g, u, w)
		p, _ := mirror.P(g, u, w)
		one, _ := mirror.P(g, u, u)
		if !slices.Equal(r, []int{-1, 3, -3, 1}) || !slices.Equal(p, []int{1, 1}) || !slices.Equal(one, []int{1}) || !scribbled([][]int{r, p, one}) {
			t.Error(r, p, one)
		}
		if !slices.Equal(u, []int{1}) || !slices.Equal(w, []int{1, 0, 2, 1}) {
			t.Error(u, w)
		}
	}
}
