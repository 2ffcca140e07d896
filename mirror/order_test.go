package mirror_test

import (
	"math"
	"slices"
	"testing"

	"corsage/api"
	"corsage/mirror"
)

// P2.4, P2.5, P2.6
func TestOrderExamples(t *testing.T) {
	a2, a3, i4 := mirror.Group{Kind: 'A', N: 2}, mirror.Group{Kind: 'A', N: 3}, mirror.Group{Kind: 'I', N: 4}
	if set, e := mirror.Falls(a2, []int{0, 1}); set != 2 || e != api.OK {
		t.Error(set, e)
	}
	if set, e := mirror.Falls(a3, []int{2, 0, 0, 0}); set != 5 || e != api.OK {
		t.Error(set, e)
	}
	if ok, e := mirror.Below(a3, []int{0, 2}, []int{1, 0, 2, 1}); !ok || e != api.OK {
		t.Error(ok, e)
	}
	if ok, e := mirror.Below(a3, []int{0, 1}, []int{1, 0, 2}); ok || e != api.OK {
		t.Error(ok, e)
	}
	if k, e := mirror.Leave(a2, []int{0, 1, 0}, 1); k != 0 || e != api.OK {
		t.Error(k, e)
	}
	if k, e := mirror.Leave(a2, []int{0, 1, 0}, 0); k != 2 || e != api.OK {
		t.Error(k, e)
	}
	if l, e := mirror.Covers(a3, []int{0, 1, 0}); !sameWords(l, [][]int{{0, 1}, {1, 0}}) || e != api.OK {
		t.Error(l, e)
	}
	if l, e := mirror.Covers(a3, []int{2, 1, 0, 0}); !sameWords(l, [][]int{{1}, {2}}) || e != api.OK {
		t.Error(l, e)
	}
	if l, e := mirror.Covers(a3, nil); len(l) != 0 || e != api.OK {
		t.Error(l, e)
	}
	if w, e := mirror.Coset(i4, []int{0, 1, 0}, 1); !slices.Equal(w, []int{0, 1}) || e != api.OK {
		t.Error(w, e)
	}
	if w, e := mirror.Coset(i4, []int{1, 0, 0}, 3); len(w) != 0 || e != api.OK {
		t.Error(w, e)
	}
	if w, e := mirror.Coset(i4, []int{1, 0, 1, 0}, 0); !slices.Equal(w, []int{0, 1, 0, 1}) || e != api.OK {
		t.Error(w, e)
	}
}

// P2.4
func TestFalls(t *testing.T) {
	for _, o := range worlds() {
		for x, words := range o.short {
			want := 0
			for s, xs := range o.right[x] {
				if len(o.normal(xs)) < len(words[0]) {
					want |= 1 << s
				}
			}
			// a word that is not short has the same falls
			for _, w := range [][]int{words[0], words[len(words)-1], slices.Concat([]int{0, 0}, words[0])} {
				if got, e := mirror.Falls(o.g, w); got != want || e != api.OK {
					t.Error(o.g, w, got, want, e)
				}
			}
		}
	}
}

// P2.4, by leaving letters out of all short words.
func TestBelow(t *testing.T) {
	for _, o := range worlds() {
		for u := range o.short {
			for w, words := range o.short {
				got, e := mirror.Below(o.g, o.normal(u), words[len(words)-1])
				if e != api.OK || got != o.under[u][w] {
					t.Error(o.g, o.normal(u), words[0], got, e)
				}
			}
		}
		for _, w := range o.long() {
			x := o.follow(0, w)
			a, e1 := mirror.Below(o.g, w, o.normal(1))
			b, e2 := mirror.Below(o.g, o.normal(1), w)
			if a != o.under[x][1] || b != o.under[1][x] || e1 != api.OK || e2 != api.OK {
				t.Error(o.g, w, a, b, e1, e2)
			}
		}
	}
}

// P2.4, P2.11: of every short word, just one letter can be left out for each of Falls, and none for the others.
func TestLeave(t *testing.T) {
	for _, o := range worlds() {
		for x, words := range o.short {
			for s, xs := range o.right[x] {
				for k, w := range words {
					if k%5 == 0 || k == len(words)-1 {
						leave(t, o, w, s, xs)
					}
				}
			}
		}
	}
}

func leave(t *testing.T, o *world, w []int, s, xs int) {
	t.Helper()
	var at []int
	for k := range w {
		if o.follow(0, slices.Concat(w[:k], w[k+1:])) == xs {
			at = append(at, k)
		}
	}
	kept := slices.Clone(w)
	got, e := mirror.Leave(o.g, w, s)
	falls := len(o.normal(xs)) < len(w)
	switch {
	case !slices.Equal(w, kept):
		t.Error(o.g, w, kept)
	case falls && (len(at) != 1 || got != at[0] || e != api.OK):
		t.Error(o.g, w, s, at, got, e)
	case !falls && (len(at) != 0 || got != 0 || e != api.ErrNone):
		t.Error(o.g, w, s, at, got, e)
	}
}

// P2.4: ErrArg precedes ErrNone.
func TestLeaveErrors(t *testing.T) {
	for _, g := range groups() {
		for _, s := range []int{-1, count(g), 63, 64, math.MaxInt, math.MinInt} {
			for _, w := range [][]int{nil, {0}, {0, 0}} {
				if k, e := mirror.Leave(g, w, s); k != 0 || e != api.ErrArg {
					t.Error(g, w, s, k, e)
				}
			}
		}
		for _, w := range [][]int{{0, 0}, {0, 0, 0}, make([]int, 30)} {
			for s := range count(g) {
				if k, e := mirror.Leave(g, w, s); k != 0 || e != api.ErrArg {
					t.Error(g, w, s, k, e)
				}
			}
		}
		if k, e := mirror.Leave(g, nil, 0); k != 0 || e != api.ErrNone {
			t.Error(g, k, e)
		}
	}
	if k, e := mirror.Leave(mirror.Group{Kind: 'A', N: 2}, []int{0, 1, 0, 1}, 0); k != 0 || e != api.ErrArg {
		t.Error(k, e)
	}
}

// P2.5
func TestCovers(t *testing.T) {
	for _, o := range worlds() {
		for w, words := range o.short {
			var want [][]int
			for u := range o.short {
				if o.under[u][w] && len(o.normal(u)) == len(words[0])-1 {
					want = append(want, o.normal(u))
				}
			}
			got, e := mirror.Covers(o.g, words[len(words)-1])
			if e != api.OK || !sameWords(got, want) || !scribbled(got) {
				t.Error(o.g, words[0], got, want, e)
			}
		}
	}
}

// P2.6, P2.12: the shortest product is found among all, and the lengths add up.
func TestCoset(t *testing.T) {
	for _, o := range worlds() {
		for set := range 1 << count(o.g) {
			part := o.generated(set)
			for x, words := range o.short {
				least, times := x, 0
				for _, y := range part {
					xy := o.follow(x, o.normal(y))
					switch n, best := len(o.normal(xy)), len(o.normal(least)); {
					case n < best:
						least, times = xy, 1
					case n == best:
						times++
					}
				}
				got, e := mirror.Coset(o.g, words[len(words)-1], set)
				if e != api.OK || times != 1 || !slices.Equal(got, o.normal(least)) {
					t.Error(o.g, words[0], set, times, got, o.normal(least), e)
				}
				// x is the product of least and the rest
				rest := o.follow(o.back(least), words[0])
				if !slices.Contains(part, rest) || len(o.normal(least))+len(o.normal(rest)) != len(words[0]) {
					t.Error(o.g, words[0], set, got, o.normal(rest))
				}
			}
		}
	}
}

// generated returns the elements whose words have mirrors of the set alone.
func (o *world) generated(set int) []int {
	all := []int{0}
	for k := 0; k < len(all); k++ {
		for s, xs := range o.right[all[k]] {
			if set>>s&1 == 1 && !slices.Contains(all, xs) {
				all = append(all, xs)
			}
		}
	}
	return all
}

// P2.6
func TestCosetErrors(t *testing.T) {
	for _, g := range groups() {
		for _, set := range []int{-1, 1 << count(g), 1<<count(g) + 1, math.MaxInt, math.MinInt} {
			if w, e := mirror.Coset(g, []int{0}, set); len(w) != 0 || e != api.ErrArg {
				t.Error(g, set, w, e)
			}
		}
	}
}

// P2.10
func TestBelowIsAnOrder(t *testing.T) {
	for _, o := range worlds() {
		below := belowOf(t, o)
		isOrder(t, o, below)
		isSymmetric(t, o, below)
		hasSquares(t, o, below)
	}
}

// belowOf returns Below of all elements.
func belowOf(t *testing.T, o *world) [][]bool {
	t.Helper()
	below := make([][]bool, len(o.short))
	for u := range below {
		for w := range o.short {
			ok, e := mirror.Below(o.g, o.normal(u), o.normal(w))
			if e != api.OK {
				t.Fatal(o.g, e)
			}
			below[u] = append(below[u], ok)
		}
	}
	return below
}

// isOrder checks an order with a least and a greatest element.
func isOrder(t *testing.T, o *world, below [][]bool) {
	t.Helper()
	top, e := mirror.Longest(o.g)
	if e != api.OK {
		t.Fatal(o.g, e)
	}
	longest := o.follow(0, top)
	for u := range below {
		if !below[u][u] || !below[0][u] || !below[u][longest] {
			t.Error(o.g, o.normal(u))
		}
		for w := range below {
			if u != w && below[u][w] && below[w][u] {
				t.Error(o.g, o.normal(u), o.normal(w))
			}
			for x := range below {
				if below[u][x] && below[x][w] && !below[u][w] {
					t.Error(o.g, o.normal(u), o.normal(x), o.normal(w))
				}
			}
		}
	}
}

// isSymmetric checks that inverses keep the order, and that Longest turns it.
func isSymmetric(t *testing.T, o *world, below [][]bool) {
	t.Helper()
	top, _ := mirror.Longest(o.g)
	back, turned := make([]int, len(below)), make([]int, len(below))
	for x := range below {
		inverse, e1 := mirror.Back(o.g, o.normal(x))
		product, e2 := mirror.Times(o.g, top, o.normal(x))
		if e1 != api.OK || e2 != api.OK {
			t.Fatal(o.g, e1, e2)
		}
		back[x], turned[x] = o.follow(0, inverse), o.follow(0, product)
	}
	for u := range below {
		for w := range below {
			if below[u][w] != below[back[u]][back[w]] || below[u][w] != below[turned[w]][turned[u]] {
				t.Error(o.g, o.normal(u), o.normal(w))
			}
		}
	}
}

// hasSquares checks that between elements whose lengths differ by 2 there are just two others.
func hasSquares(t *testing.T, o *world, below [][]bool) {
	t.Helper()
	for u := range below {
		for w := range below {
			if !below[u][w] || len(o.normal(w))-len(o.normal(u)) != 2 {
				continue
			}
			between := 0
			for x := range below {
				if x != u && x != w && below[u][x] && below[x][w] {
					between++
				}
			}
			if between != 2 {
				t.Error(o.g, o.normal(u), o.normal(w), between)
			}
		}
	}
}
