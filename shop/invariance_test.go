package shop_test

import (
	"fmt"
	"slices"
	"strings"
	"testing"

	"corsage/api"
	"corsage/arcs"
	"corsage/signs"
)

// renamed returns a line in which all names are others, which may come in another order.
func renamed(line string) string {
	words := strings.Split(line, " ")
	for i, word := range words[1:] {
		words[i+1] = strings.Map(func(r rune) rune {
			if r >= 'a' && r <= 'z' {
				return 'a' + (r-'a')*5%26
			}
			return r
		}, word)
	}
	return strings.Join(words, " ")
}

// P5: renaming everything renames it in the replies, and changes nothing else.
func TestRenaming(t *testing.T) {
	for seed := range 40 {
		r := random(3000 + seed)
		s, x := newShop(t), newShop(t)
		for range 100 {
			line := someLine(&r)
			_, e := s.Do(line)
			if _, f := x.Do(renamed(line)); e != f {
				t.Error(line, e, f)
			}
		}
		for _, line := range append(questions(&r), questions(&r)...) {
			want, e := s.Ask(line)
			reply, f := x.Ask(renamed(line))
			words, others := strings.Fields(reply), strings.Fields(renamed(want))
			if line == "beds" {
				slices.Sort(words)
				slices.Sort(others)
			}
			if e != f || !slices.Equal(words, others) {
				t.Error(line, want, e, reply, f)
			}
		}
	}
}

// garland returns changes that make a garland of a graph, its nodes in this order.
func garland(g []int, order []int) []string {
	var lines []string
	name := func(i int) string { return string(rune('a' + i)) }
	for _, i := range order {
		lines = append(lines, "node "+name(i))
	}
	for _, i := range order {
		for j := range i {
			if g[i]>>j&1 == 1 {
				lines = append(lines, "tie "+name(i)+" "+name(j))
			}
		}
	}
	return lines
}

// graphs returns graphs of which some have Numbers.
func graphs(r *random) [][]int {
	all := [][]int{{6, 5, 3, 0}, {10, 5, 10, 5}, {18, 5, 10, 20, 9}, {2, 1, 8, 4}, {0, 0, 0, 0, 0}}
	for range 60 {
		g := make([]int, 1+r.below(16))
		for i := range g {
			for j := range i {
				if r.below(2) == 1 {
					g[i], g[j] = g[i]|1<<j, g[j]|1<<i
				}
			}
		}
		all = append(all, g)
	}
	return all
}

// P5: the order of the nodes does not matter, nor does switching for odd ones.
func TestGarlands(t *testing.T) {
	r := random(5)
	for _, g := range graphs(&r) {
		first := slices.Collect(upTo(len(g)))
		s := newShop(t, garland(g, first)...)
		kind, e := s.Ask("kind")
		odd := asked(t, s, "odd")
		var order []int
		for i := range g {
			order = slices.Insert(order, r.below(i+1), i)
		}
		x := newShop(t, garland(g, order)...)
		if other, f := x.Ask("kind"); other != kind || e != f || asked(t, x, "odd") != odd {
			t.Error(g, order, kind, e, other, f)
		}
		set := r.below(1 << len(g))
		for i := range g {
			for j := range i {
				if set>>i&1 == set>>j&1 {
					continue
				}
				couple := string(rune('a'+i)) + " " + string(rune('a'+j))
				if _, e := x.Do("tie " + couple); e != api.OK {
					doAll(t, x, "cut "+couple)
				}
			}
		}
		if other := asked(t, x, "odd"); other != odd {
			t.Error(g, set, odd, other)
		}
	}
}

// P5: adding a card to all cards, digit by digit, changes neither room nor what may be added.
func TestMovedCards(t *testing.T) {
	moved := func(a, b int) int { return (a+b)%3 + (a/3+b/3)%3*3 + (a/9+b/9)%3*9 }
	r := random(6)
	for by := range 27 {
		s, x := newShop(t), newShop(t)
		for range 20 {
			c := r.below(27)
			_, e := s.Do(fmt.Sprint("card ", c))
			_, f := x.Do(fmt.Sprint("card ", moved(c, by)))
			if a, b := asked(t, s, "room"), asked(t, x, "room"); a != b || e != f {
				t.Error(by, c, a, b, e, f)
			}
		}
	}
}

// P5: whether guests can be seated does not depend on the order in which they come, nor on how the seats are numbered.
func TestMovedSeats(t *testing.T) {
	r := random(8)
	for range 300 {
		sets := make([]int, 1+r.below(6))
		for i := range sets {
			sets[i] = r.below(64) | r.below(64)
		}
		var others, numbers []int
		for i := range 6 {
			numbers = slices.Insert(numbers, r.below(i+1), i)
		}
		for i, set := range sets {
			other := 0
			for j, to := range numbers {
				other |= set >> j & 1 << to
			}
			others = slices.Insert(others, r.below(i+1), other)
		}
		_, e := newShop(t, tabled(sets)...).Ask("seat")
		if _, f := newShop(t, tabled(others)...).Ask("seat"); e != f {
			t.Error(sets, others, e, f)
		}
	}
}

// P5: mapping a plane takes arcs to arcs, and turning rows and columns of signs changes neither balance nor the greatest sum.
func TestMappedAndTurned(t *testing.T) {
	for _, p := range []int{2, 3, 5, 7} {
		arc, _ := arcs.Grow(p, nil)
		for _, m := range []arcs.Matrix{{{0, 1, 0}, {0, 0, 1}, {1, 0, 0}}, {{1, 1, 0}, {0, 1, 1}, {0, 0, 1}}} {
			var mapped []int
			for _, point := range arc {
				to, e := arcs.Apply(p, m, point)
				if e != api.OK {
					t.Error(p, m, e)
				}
				mapped = append(mapped, to)
			}
			slices.Sort(mapped)
			if ok, e := arcs.Arc(p, mapped); !ok || e != api.OK || len(mapped) != len(arc) {
				t.Error(p, arc, mapped, ok, e)
			}
		}
	}
	r := random(11)
	for _, p := range []int{3, 7} {
		h, _ := signs.Squares(p)
		best, _ := signs.Best(h)
		for range 10 {
			row, column := r.below(p+1), r.below(p+1)
			h[row] ^= 1<<(p+1) - 1
			for i := range h {
				h[i] ^= 1 << column
			}
			balanced, _ := signs.Balanced(h)
			if other, e := signs.Best(h); other != best || !balanced || e != api.OK {
				t.Error(p, h, best, other, balanced, e)
			}
		}
	}
}
