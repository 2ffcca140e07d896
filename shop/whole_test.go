package shop_test

import (
	"fmt"
	"math/big"
	"slices"
	"strconv"
	"strings"
	"testing"

	"corsage/api"
	"corsage/arcs"
	"corsage/rooks"
	"corsage/schemes"
	"corsage/shop"
	"corsage/stems"
	"corsage/traces"
)

// shapes returns all shapes of n boxes.
func shapes(n, most int) [][]int {
	if n == 0 {
		return [][]int{nil}
	}
	var all [][]int
	for first := 1; first <= min(n, most); first++ {
		for _, rest := range shapes(n-first, first) {
			all = append(all, append([]int{first}, rest...))
		}
	}
	return all
}

// choices returns in how many ways k of n can be chosen.
func choices(n, k int) int { return int(new(big.Int).Binomial(int64(n), int64(k)).Int64()) }

// number returns the one number of a reply.
func number(t *testing.T, reply string) int {
	t.Helper()
	words := strings.Fields(reply)
	n, err := strconv.Atoi(words[len(words)-1])
	if err != nil || len(words) != 2 {
		t.Error(reply, err)
	}
	return n
}

// crossed returns the sum of Count times ways over the terms of a reply to cross.
func crossed(t *testing.T, s *shop.Shop, reply string) int {
	t.Helper()
	sum := 0
	for _, term := range strings.Fields(reply)[1:] {
		shape, text, _ := strings.Cut(term, ":")
		count, err := strconv.Atoi(text)
		x := newShop(t, "bed z "+strings.ReplaceAll(shape, ",", " "))
		if err != nil || count < 1 {
			t.Error(reply, err)
		}
		sum += count * number(t, asked(t, x, "ways z"))
	}
	return sum
}

// P10.11, P2: fillings and products count the same, for all couples of shapes.
func TestCrossing(t *testing.T) {
	for m := 1; m <= 8; m++ {
		for _, a := range shapes(m, m) {
			for n := 1; n <= m; n++ {
				for _, b := range shapes(n, n) {
					s := newShop(t, "bed a "+spelled(" ", a...), "bed b "+spelled(" ", b...))
					ab, e := s.Ask("cross a b")
					ba, f := s.Ask("cross b a")
					if m+n > 8 {
						refused(t, ab == "", e, api.ErrSize, a, b)
						refused(t, ba == "", f, api.ErrSize, b, a)
						continue
					}
					ways := number(t, asked(t, s, "ways a")) * number(t, asked(t, s, "ways b"))
					if ab != ba || e != api.OK || f != api.OK || crossed(t, s, ab) != ways*choices(m+n, m) {
						t.Error(a, b, ab, ba, ways)
					}
				}
			}
		}
	}
}

// P1: a garland that has Numbers has no reason against them; lines that are missed, or held whole, tell what does not block; and no plan is worth more than prices that bound.
// (That seats are there or a barrier is, TestSeats checks.)
func TestOneOrTheOther(t *testing.T) {
	for n := 4; n <= 5; n++ {
		for set := range 1 << (n * (n - 1) / 2) {
			g := make([]int, n)
			rest := set
			for i := range n {
				for j := range i {
					if rest&1 == 1 {
						g[i], g[j] = g[i]|1<<j, g[j]|1<<i
					}
					rest >>= 1
				}
			}
			if x, e := schemes.Read(g); e == api.OK {
				if r, e := schemes.Reason(x); e != api.ErrNone {
					t.Error(g, x, r, e)
				}
			}
		}
	}
	r := random(1)
	for _, p := range []int{2, 3, 5, 7} {
		for range 200 {
			var set []int
			for point := range p*p + p + 1 {
				if r.below(3) > 0 {
					set = append(set, point)
				}
			}
			blocks, _ := arcs.Blocks(p, set)
			missed, _ := arcs.Miss(p, set)
			other := slices.DeleteFunc(slices.Collect(upTo(p*p+p+1)), func(x int) bool { return slices.Contains(set, x) })
			whole, _ := arcs.Miss(p, other)
			if blocks != (len(missed) == 0 && len(whole) == 0) {
				t.Error(p, set, blocks, missed, whole)
			}
		}
	}
	for range 200 {
		m := newModel()
		for range r.below(12) {
			m.order(r.below(4))
		}
		priced(t, m.world())
	}
}

// upTo yields the numbers below n.
func upTo(n int) func(yield func(int) bool) {
	return func(yield func(int) bool) {
		for i := range n {
			if !yield(i) {
				return
			}
		}
	}
}

// priced checks that the worths of the best plan, over one divisor, are prices that bound a world, and no lower ones are.
func priced(t *testing.T, w stems.World) {
	t.Helper()
	bound, _ := stems.Bound(w)
	divisor := 1
	for _, x := range bound {
		divisor = divisor * x.Den / int(new(big.Int).GCD(nil, nil, big.NewInt(int64(divisor)), big.NewInt(int64(x.Den))).Int64())
	}
	var prices []int
	for _, x := range bound {
		prices = append(prices, x.Num*(divisor/x.Den))
	}
	if ok, e := stems.Check(w, prices, divisor); !ok || e != api.OK {
		t.Error(w, prices, divisor, ok, e)
	}
	for s := range prices {
		prices[s]--
		if ok, _ := stems.Check(w, prices, divisor); ok {
			t.Error(w, prices, divisor)
		}
		prices[s]++
	}
}

// P2: rooks and hits, colourings and characters, points and lines are counted in two ways each.
func TestCountedTwice(t *testing.T) {
	r := random(3)
	for range 200 {
		b := make([]int, 6)
		for i := range b {
			b[i] = r.below(64)
		}
		numbers, _ := rooks.Rooks(b)
		hits, _ := rooks.Hits(b)
		factorial := 1
		for k := 6; k >= 0; k-- {
			sum := 0
			for m := k; m <= 6; m++ {
				sum += hits[m] * choices(m, k)
			}
			if sum != numbers[k]*factorial {
				t.Error(b, numbers, hits)
			}
			factorial *= 7 - k
		}
	}
	s := newShop(t)
	for k := 1; k <= 4; k++ {
		for c := range 9 {
			if n := number(t, asked(t, s, fmt.Sprint("turn ", k, " ", c))); n != coloured(t, k, c) {
				t.Error(k, c, n)
			}
		}
	}
	for _, p := range []int{2, 3, 5, 7} {
		for i := range p*p + p + 1 {
			lines, points := 0, 0
			for j := range p*p + p + 1 {
				if on, _ := arcs.On(p, i, j); on {
					lines++
				}
				if on, _ := arcs.On(p, j, i); on {
					points++
				}
			}
			if lines != p+1 || points != p+1 {
				t.Error(p, i, lines, points)
			}
		}
	}
}

// coloured returns how many colourings of k flowers that are turned around there are, as a sum of characters:
// each power of the turn of order d leaves c to the power of k / d colourings as they are, and the first character counts the orbits.
func coloured(t *testing.T, k, c int) int {
	t.Helper()
	var around []int
	for i := range k {
		around = append(around, (i+1)%k)
	}
	g := [][]int{around}
	elements, _ := traces.Elements(g)
	classes, _ := traces.Classes(g)
	q, _ := traces.Prime(g)
	var f []int
	for _, class := range classes {
		cycles, met := 0, 0
		for i := range k {
			if met>>i&1 == 0 {
				cycles++
			}
			for j := i; met>>j&1 == 0; j = elements[class[0]][j] {
				met |= 1 << j
			}
		}
		power := 1
		for range cycles {
			power *= c
		}
		f = append(f, power)
	}
	sum := 0
	for i := range f {
		sum += f[i] * len(classes[i])
		f[i] %= q
	}
	table, _ := traces.Table(g)
	first := slices.IndexFunc(table, func(x []int) bool { return slices.Max(x) == 1 })
	split, e := traces.Split(g, f)
	if e != api.OK || sum%len(elements) != 0 || split[first] != sum/len(elements)%q {
		t.Error(k, c, split, first, sum, e)
	}
	return sum / len(elements)
}

// P4: the worths of the shop's plans are exact fractions in lowest terms: put into what defines them, nothing is left over.
func TestExact(t *testing.T) {
	r := random(4)
	for range 100 {
		m := newModel()
		for range r.below(31) {
			m.order(r.below(4))
		}
		w := m.world()
		plan, _ := stems.Best(w)
		worth, e := stems.Worth(w, plan)
		if e != api.OK {
			t.Fatal(w, plan, e)
		}
		for s, x := range worth {
			act := w.Acts[s][plan[s]]
			sum, total := new(big.Rat), int64(0)
			for k, n := range act.Odds {
				total += int64(n)
				sum.Add(sum, new(big.Rat).Mul(big.NewRat(int64(n), 1), big.NewRat(int64(worth[k].Num), int64(worth[k].Den))))
			}
			sum.Mul(sum, big.NewRat(3, 4*total))
			sum.Add(sum, big.NewRat(int64(act.Gain), 1))
			if sum.Num().Int64() != int64(x.Num) || sum.Denom().Int64() != int64(x.Den) {
				t.Error(w, plan, worth, s, sum)
			}
		}
	}
}
