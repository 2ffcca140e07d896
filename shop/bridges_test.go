package shop_test

import (
	"fmt"
	"math/bits"
	"slices"
	"testing"

	"corsage/api"
	"corsage/arcs"
	"corsage/mirror"
	"corsage/schemes"
	"corsage/signs"
	"corsage/traces"
)

// P3: mirrors of kind 'A' are neighbours that change places, and their words are as long as there are couples in the wrong order.
// (That shapes give the characters of permutations, TestTableOfShapes of package traces checks.)
func TestMirrorBridge(t *testing.T) {
	for n := 2; n <= 4; n++ {
		var swaps [][]int
		for i := range n - 1 {
			p := slices.Collect(upTo(n))
			p[i], p[i+1] = i+1, i
			swaps = append(swaps, p)
		}
		elements, _ := traces.Elements(swaps)
		words, _ := mirror.All(mirror.Group{Kind: 'A', N: n - 1})
		var moved [][]int
		for _, w := range words {
			p := slices.Collect(upTo(n))
			for _, s := range w {
				p[s], p[s+1] = p[s+1], p[s]
			}
			if wrong(p) != len(w) {
				t.Error(n, w, p)
			}
			moved = append(moved, p)
		}
		slices.SortFunc(moved, slices.Compare[[]int])
		if !slices.EqualFunc(moved, elements, slices.Equal[[]int]) {
			t.Error(n, moved, elements)
		}
	}
}

// wrong returns how many couples of a permutation are in the wrong order.
func wrong(p []int) int {
	count := 0
	for i, x := range p {
		for _, y := range p[:i] {
			if y > x {
				count++
			}
		}
	}
	return count
}

// P3: a wreath of k has as many elements as there are turns and mirrored turns of k flowers.
func TestWreathBridge(t *testing.T) {
	s := newShop(t)
	for k := 3; k <= 5; k++ {
		var around, back []int
		for i := range k {
			around, back = append(around, (i+1)%k), append(back, k-1-i)
		}
		all, e := traces.Elements([][]int{around, back})
		if n := number(t, asked(t, s, fmt.Sprint("wreath ", k))); n != len(all) || e != api.OK {
			t.Error(k, n, len(all), e)
		}
	}
}

// P3: squares modulo primes give matrices that balance and graphs that have Numbers; the matrix of 7 gives the plane over 2: any two points are together in one of its sets.
func TestSquareBridges(t *testing.T) {
	isSquare := func(n, p int) bool {
		return slices.ContainsFunc(slices.Collect(upTo(p)), func(x int) bool { return x > 0 && (x*x-n)%p == 0 })
	}
	for _, p := range []int{3, 7, 11} {
		h, _ := signs.Squares(p)
		for i := range p {
			for j := range p {
				if plus := h[i+1]>>(j+1)&1 == 0; plus != (i == j || isSquare(j-i, p)) {
					t.Error(p, i, j)
				}
			}
		}
		if ok, e := signs.Balanced(h); !ok || e != api.OK {
			t.Error(p, h, e)
		}
	}
	for _, p := range []int{5, 13} {
		g, _ := schemes.Squares(p)
		for i := range p {
			for j := range p {
				if near := g[i]>>j&1 == 1; near != isSquare(j-i, p) {
					t.Error(p, i, j)
				}
			}
		}
		if x, e := schemes.Read(g); e != api.OK || x != (schemes.Numbers{N: p, K: (p - 1) / 2, L: (p - 5) / 4, M: (p - 1) / 4}) {
			t.Error(p, x, e)
		}
	}
	h, _ := signs.Squares(7)
	design, _ := signs.Design(h)
	points, _ := arcs.Points(2)
	if len(design) != len(points) {
		t.Error(design, points)
	}
	for i, a := range design {
		for _, b := range design[:i] {
			if bits.OnesCount(uint(a)) != 3 || bits.OnesCount(uint(a&b)) != 1 {
				t.Error(design)
			}
		}
	}
}
