package stems_test

import (
	"math/big"
	"slices"
	"testing"

	"corsage/api"
	"corsage/stems"
)

// two is the world of the document's second example.
func two() stems.World {
	return stems.World{Keep: [2]int{1, 2}, Acts: [][]stems.Act{
		{{Gain: 0, Odds: []int{0, 1}}},
		{{Gain: 3, Odds: []int{1, 0}}, {Gain: 1, Odds: []int{0, 1}}},
	}}
}

// pairs returns all odds of two states.
func pairs() [][]int {
	var all [][]int
	for x := 1; x < 16; x++ {
		all = append(all, []int{x % 4, x / 4})
	}
	return all
}

// worth returns Worth, which must be there.
func worth(t *testing.T, w stems.World, plan []int) []api.Frac {
	t.Helper()
	l, e := stems.Worth(w, plan)
	if len(l) != len(plan) || e != api.OK {
		t.Fatal(w, plan, l, e)
	}
	return l
}

// bound returns Bound, which must be there.
func bound(t *testing.T, w stems.World) []*big.Rat {
	t.Helper()
	l, e := stems.Bound(w)
	if len(l) != len(w.Acts) || e != api.OK {
		t.Fatal(w, l, e)
	}
	return numbers(l)
}

// P9.1, P9.7: against elimination with fractions; what comes solves the equations.
func TestWorth(t *testing.T) {
	for _, x := range samples() {
		for i, plan := range x.plans {
			l := worth(t, x.world, plan)
			if !slices.Equal(l, plain(x.worths[i])) {
				t.Error(x.world, plan, l, plain(x.worths[i]))
			}
			for s, act := range chosen(x.world, plan) {
				if brought(x.world, act, numbers(l)).Cmp(numbers(l)[s]) != 0 {
					t.Error(x.world, plan, s, l)
				}
			}
		}
	}
	for _, keep := range keeps() {
		for gain := -9; gain <= 9; gain++ {
			for odds := 1; odds <= 3; odds++ {
				want := plain([]*big.Rat{ratio(gain*keep[1], keep[1]-keep[0])})
				if l := worth(t, single(keep, []int{gain}, []int{odds}), []int{0}); !slices.Equal(l, want) {
					t.Error(keep, gain, odds, l, want)
				}
			}
		}
		for _, first := range pairs() {
			for _, second := range pairs() {
				w := single(keep, []int{keep[1] + first[0], -second[1]}, first, second)
				if l, want := worth(t, w, []int{0, 0}), plain(worthOf(w, []int{0, 0})); !slices.Equal(l, want) {
					t.Error(w, l, want)
				}
			}
		}
	}
	if l := worth(t, two(), []int{0, 1}); !slices.Equal(l, []api.Frac{{Num: 1, Den: 1}, {Num: 2, Den: 1}}) {
		t.Error(l)
	}
	if l := worth(t, single([2]int{1, 2}, []int{1}, []int{1}), []int{0}); !slices.Equal(l, []api.Frac{{Num: 2, Den: 1}}) {
		t.Error(l)
	}
	if l := worth(t, single([2]int{1, 2}, []int{0}, []int{1, 3}, []int{2, 0}), []int{0, 0}); !slices.Equal(l, []api.Frac{{Num: 0, Den: 1}, {Num: 0, Den: 1}}) {
		t.Error(l)
	}
}

// P9.2, P9.3: the first of the plans whose worth is, in each state, at least that of every plan, and that worth.
func TestBestAndBound(t *testing.T) {
	for _, x := range samples() {
		plans, highest := x.best()
		if plan, e := stems.Best(x.world); !slices.Equal(plan, plans[0]) || e != api.OK {
			t.Error(x.world, plan, plans, e)
		}
		if l, e := stems.Bound(x.world); !slices.Equal(l, plain(highest)) || e != api.OK {
			t.Error(x.world, l, plain(highest), e)
		}
	}
	if plan, e := stems.Best(two()); !slices.Equal(plan, []int{0, 0}) || e != api.OK {
		t.Error(plan, e)
	}
	same := stems.Act{Gain: 4, Odds: []int{2}}
	w := stems.World{Keep: [2]int{1, 2}, Acts: [][]stems.Act{{{Gain: 3, Odds: []int{1}}, same, same}}}
	if plan, e := stems.Best(w); !slices.Equal(plan, []int{1}) || e != api.OK {
		t.Error(plan, e)
	}
}

// better returns what P9.2 says of a plan with this worth.
func better(w stems.World, plan []int, worth []*big.Rat) []int {
	var next []int
	for s, acts := range w.Acts {
		var brings []*big.Rat
		for _, x := range acts {
			brings = append(brings, brought(w, x, worth))
		}
		most := slices.MaxFunc(brings, (*big.Rat).Cmp)
		i := plan[s]
		if brings[i].Cmp(most) < 0 {
			i = slices.IndexFunc(brings, func(x *big.Rat) bool { return x.Cmp(most) == 0 })
		}
		next = append(next, i)
	}
	return next
}

// P9.2, P9.8: by the document's words; for best plans, and only for these, there is none; the worth is in no state less and in some more.
func TestBetter(t *testing.T) {
	for _, x := range samples() {
		best, _ := x.best()
		for i, plan := range x.plans {
			next, e := stems.Better(x.world, plan)
			if slices.ContainsFunc(best, func(l []int) bool { return slices.Equal(l, plan) }) {
				refused(t, len(next) == 0, e, api.ErrNone, x.world, plan)
				continue
			}
			if want := better(x.world, plan, x.worths[i]); !slices.Equal(next, want) || e != api.OK {
				t.Error(x.world, plan, next, want, e)
				continue
			}
			more := numbers(worth(t, x.world, next))
			if !noLess(more, x.worths[i]) || noLess(x.worths[i], more) {
				t.Error(x.world, plan, next, more)
			}
		}
	}
	if plan, e := stems.Better(two(), []int{0, 1}); !slices.Equal(plan, []int{0, 0}) || e != api.OK {
		t.Error(plan, e)
	}
	plan, e := stems.Better(two(), []int{0, 0})
	refused(t, len(plan) == 0, e, api.ErrNone)
	// The last act brings as much as the first, but only where it is the plan's own does it stay.
	w := two()
	w.Acts[0] = []stems.Act{{Gain: 0, Odds: []int{0, 1}}, {Gain: -9, Odds: []int{1, 0}}, {Gain: 0, Odds: []int{0, 3}}}
	for from, want := range [][]int{{0, 0}, {0, 1}, {2, 0}} {
		if plan, e := stems.Better(w, []int{from, 1}); !slices.Equal(plan, want) || e != api.OK {
			t.Error(from, plan, e)
		}
	}
}

// P9.8: a chain of Betters from any plan ends at a best one.
func TestChains(t *testing.T) {
	for _, x := range samples() {
		best, _ := x.best()
		for _, plan := range x.plans {
			next, e := stems.Better(x.world, plan)
			for steps := 0; e == api.OK; steps++ {
				if steps > len(x.plans) {
					t.Fatal(x.world, plan, next)
				}
				plan = next
				next, e = stems.Better(x.world, plan)
			}
			if e != api.ErrNone || !slices.ContainsFunc(best, func(l []int) bool { return slices.Equal(l, plan) }) {
				t.Error(x.world, plan, best, e)
			}
		}
	}
}

// overOne returns prices as numbers over one divisor.
func overOne(prices []*big.Rat) (l []int, divisor int) {
	common := big.NewInt(1)
	for _, x := range prices {
		part := new(big.Int).GCD(nil, nil, common, x.Denom())
		common.Mul(common, part.Quo(x.Denom(), part))
	}
	for _, x := range prices {
		l = append(l, int(times(x, new(big.Rat).SetInt(common)).Num().Int64()))
	}
	return l, int(common.Int64())
}

// priced returns numbers over a divisor as prices.
func priced(l []int, divisor int) []*big.Rat {
	var prices []*big.Rat
	for _, x := range l {
		prices = append(prices, ratio(x, divisor))
	}
	return prices
}

// bounded reports whether prices bound a world, by the document's words.
func bounded(w stems.World, prices []*big.Rat) bool {
	for s, acts := range w.Acts {
		for _, x := range acts {
			if prices[s].Cmp(brought(w, x, prices)) < 0 {
				return false
			}
		}
	}
	return true
}

// checked checks Check of prices, and that what it accepts is at least the worth of every plan; it returns whether it accepts them.
func checked(t *testing.T, x known, l []int, divisor int) bool {
	t.Helper()
	prices := priced(l, divisor)
	ok, e := stems.Check(x.world, l, divisor)
	if ok != bounded(x.world, prices) || e != api.OK {
		t.Error(x.world, l, divisor, ok, e)
	}
	for _, worth := range x.worths {
		if ok && !noLess(prices, worth) {
			t.Error(x.world, l, divisor, plain(worth))
		}
	}
	return ok
}

// P9.3, P9.9: Bound is accepted, and what is less in any state is not; by the document's words for prices near Bound.
func TestCheck(t *testing.T) {
	d := dice{seed: 3}
	for _, x := range samples() {
		least, divisor := overOne(bound(t, x.world))
		if !checked(t, x, least, divisor) {
			t.Error(x.world, least, divisor)
		}
		for s := range least {
			l := slices.Clone(least)
			l[s]--
			if checked(t, x, l, divisor) {
				t.Error(x.world, l, divisor)
			}
		}
		factor := 1 + 1_000_000_000/divisor/2
		for range 20 {
			l := slices.Clone(least)
			for s := range l {
				l[s] = l[s]*factor + d.below(factor*divisor)
			}
			checked(t, x, l, factor*divisor)
		}
		equal := make([]int, len(least))
		for n := -36; n <= 36; n++ {
			for s := range equal {
				equal[s] = n
			}
			checked(t, x, equal, 1)
		}
	}
	for _, x := range []struct {
		numbers []int
		divisor int
		want    bool
	}{{[]int{2, 4}, 1, true}, {[]int{4, 8}, 2, true}, {[]int{2, 3}, 1, false}, {[]int{9, 9}, 1, true}, {[]int{1, 4}, 1, false}, {[]int{20, 39}, 10, false}} {
		if ok, e := stems.Check(two(), x.numbers, x.divisor); ok != x.want || e != api.OK {
			t.Error(x, ok, e)
		}
	}
}

// P9.3: the greatest prices, and those that just bound a world in which each other state has such a price.
func TestCheckGreat(t *testing.T) {
	const most = 1_000_000_000_000
	d := dice{seed: 12}
	for _, x := range samples() {
		n := len(x.world.Acts)
		for _, divisor := range []int{1, 7, 999_999_999, 1_000_000_000} {
			for _, number := range []int{most, most - 1, -most, 1 - most, 0} {
				checked(t, x, slices.Repeat([]int{number}, n), divisor)
			}
			for range 4 {
				l := make([]int, n)
				for s := range l {
					l[s] = []int{most, -most, most - d.below(9), d.below(most)}[d.below(4)]
				}
				checked(t, x, l, divisor)
			}
		}
	}
	for _, keep := range keeps() {
		w := single(keep, []int{9, -9}, []int{0, 3, 3, 1}, []int{0, 1, 0, 0}, []int{0, 0, 1, 0}, []int{0, 0, 0, 1})
		for divisor := 1; divisor <= 1_000_000_000; divisor *= 10 {
			l := []int{0, most, most - 1, most - 3}
			need := times(brought(w, w.Acts[0][0], priced(l, divisor)), ratio(divisor, 1))
			l[0] = int(new(big.Int).Quo(need.Num(), need.Denom()).Int64())
			for _, want := range []bool{false, true, true} {
				if ok, e := stems.Check(w, l, divisor); ok != want && !(ok && need.IsInt()) || e != api.OK {
					t.Error(w, l, divisor, ok, want, e)
				}
				l[0]++
			}
		}
	}
}

// P9.3: what are no prices is not accepted, but is no error.
func TestCheckNoPrices(t *testing.T) {
	for _, x := range []struct {
		numbers []int
		divisor int
		want    bool
	}{
		{[]int{1_000_000_000_000, 1_000_000_000_000}, 1, true}, {[]int{1_000_000_000_001, 1_000_000_000_000}, 1, false}, {[]int{1_000_000_000_000, 1_000_000_000_001}, 1, false},
		{[]int{9_000_000_000, 9_000_000_000}, 1_000_000_000, true}, {[]int{9_000_000_009, 9_000_000_009}, 1_000_000_001, false}, {[]int{9, 9}, 0, false}, {[]int{9, 9}, -1, false}, {[]int{-9, -9}, -1, false},
		{nil, 1, false}, {[]int{9}, 1, false}, {[]int{9, 9, 9}, 1, false}, {slices.Repeat([]int{9}, 100000), 1, false},
	} {
		if ok, e := stems.Check(two(), x.numbers, x.divisor); ok != x.want || e != api.OK {
			t.Error(x.numbers[:min(len(x.numbers), 3)], x.divisor, ok, e)
		}
	}
	for _, n := range strange() {
		if n >= 0 && n < 1_000_000_000_000 {
			continue
		}
		for _, l := range [][]int{{n, 9}, {9, n}, {n, n}} {
			ok, e := stems.Check(two(), l, 1)
			refused(t, !ok, e, api.OK, l)
		}
		ok, e := stems.Check(two(), []int{9, 9}, n)
		refused(t, !ok, e, api.OK, n)
	}
	lowest := single([2]int{1, 2}, []int{-9}, []int{1})
	for n, want := range map[int]bool{-18: true, -19: false, -1_000_000_000_000: false, -1_000_000_000_001: false} {
		if ok, e := stems.Check(lowest, []int{n}, 1); ok != want || e != api.OK {
			t.Error(n, ok, e)
		}
	}
}

// gained returns what is gained on the average in some steps from a state, by going all ways.
func gained(w stems.World, acts []stems.Act, from, steps int) *big.Rat {
	total := new(big.Rat)
	var walk func(s, left int, counts *big.Rat)
	walk = func(s, left int, counts *big.Rat) {
		if left == 0 {
			return
		}
		total = plus(total, times(counts, ratio(acts[s].Gain, 1)))
		for k := range acts {
			walk(k, left-1, times(times(counts, ratio(w.Keep[0], w.Keep[1])), chance(acts[s], k)))
		}
	}
	walk(from, steps, ratio(1, 1))
	return total
}

// power returns x to the power of k.
func power(x *big.Rat, k int) *big.Rat {
	p := ratio(1, 1)
	for range k {
		p = times(p, x)
	}
	return p
}

// P9.4, P9.7: the sum over all ways; how far Worth can be from it.
func TestAfter(t *testing.T) {
	for _, x := range samples() {
		a, b := x.world.Keep[0], x.world.Keep[1]
		for i, plan := range x.plans {
			if i > 2 && i%7 != 0 {
				continue
			}
			for steps := 0; steps <= 3; steps++ {
				var want []*big.Rat
				for s := range plan {
					want = append(want, gained(x.world, chosen(x.world, plan), s, steps))
				}
				l, e := stems.After(x.world, plan, steps)
				if !slices.Equal(l, plain(want)) || e != api.OK {
					t.Error(x.world, plan, steps, l, plain(want), e)
				}
				far := times(power(ratio(a, b), steps), ratio(9*b, b-a))
				for s, y := range numbers(worth(t, x.world, plan)) {
					if difference := less(y, want[s]); difference.Abs(difference).Cmp(far) > 0 {
						t.Error(x.world, plan, steps, s)
					}
				}
			}
		}
	}
	if l, e := stems.After(two(), []int{0, 0}, 2); !slices.Equal(l, []api.Frac{{Num: 3, Den: 2}, {Num: 3, Den: 1}}) || e != api.OK {
		t.Error(l, e)
	}
	if l, e := stems.After(two(), []int{0, 0}, 0); !slices.Equal(l, []api.Frac{{Num: 0, Den: 1}, {Num: 0, Den: 1}}) || e != api.OK {
		t.Error(l, e)
	}
	for _, steps := range append(strange(), 4, 5) {
		l, e := stems.After(two(), []int{0, 0}, steps)
		refused(t, len(l) == 0, e, api.ErrArg, steps)
	}
}

// shifted returns w with n added to all Gains, and whether these are valid.
func shifted(w stems.World, n int) (stems.World, bool) {
	w = cloned(w)
	for _, acts := range w.Acts {
		for i := range acts {
			acts[i].Gain += n
			if acts[i].Gain < -9 || acts[i].Gain > 9 {
				return w, false
			}
		}
	}
	return w, true
}

// P9.10: adding a number to all Gains.
func TestShifts(t *testing.T) {
	tried := 0
	for _, x := range samples() {
		a, b := x.world.Keep[0], x.world.Keep[1]
		for n := -18; n <= 18; n++ {
			w, valid := shifted(x.world, n)
			if !valid {
				continue
			}
			tried++
			plan := x.plans[tried%len(x.plans)]
			more := ratio(n*b, b-a)
			for s, y := range numbers(worth(t, w, plan)) {
				if y.Cmp(plus(x.worths[tried%len(x.plans)][s], more)) != 0 {
					t.Error(x.world, n, plan, s, y)
				}
			}
			best, e := stems.Best(x.world)
			if again, f := stems.Best(w); !slices.Equal(best, again) || e != api.OK || f != api.OK {
				t.Error(x.world, n, best, again, e, f)
			}
			for from := range plan {
				rest, e := stems.Rest(x.world, plan, from)
				if again, f := stems.Rest(w, plan, from); !slices.Equal(rest, again) || e != f {
					t.Error(x.world, n, plan, from, rest, again, e, f)
				}
			}
		}
	}
	if tried < 1000 {
		t.Error(tried)
	}
}

// multiplied returns w with the odds of an act multiplied, and whether these are valid.
func multiplied(w stems.World, s, i, by int) (stems.World, bool) {
	w = cloned(w)
	odds := w.Acts[s][i].Odds
	for k := range odds {
		odds[k] *= by
	}
	return w, slices.Max(odds) <= 3
}

// P9.10: multiplying all odds of an act.
func TestMultiples(t *testing.T) {
	tried := 0
	for _, x := range samples() {
		for s, acts := range x.world.Acts {
			for i := range acts {
				for by := 2; by <= 3; by++ {
					w, valid := multiplied(x.world, s, i, by)
					if !valid {
						continue
					}
					tried++
					sameAnswers(t, x.world, w, x.plans[tried%len(x.plans)])
				}
			}
		}
	}
	if tried < 300 {
		t.Error(tried)
	}
}

// sameAnswers checks that all functions say the same of two worlds.
func sameAnswers(t *testing.T, v, w stems.World, plan []int) {
	t.Helper()
	same := func(l, m []api.Frac, e, f api.Errno) {
		t.Helper()
		if !slices.Equal(l, m) || e != f || e == api.ErrArg {
			t.Error(v, w, plan, l, m, e, f)
		}
	}
	samePlan := func(l, m []int, e, f api.Errno) {
		t.Helper()
		if !slices.Equal(l, m) || e != f || e == api.ErrArg {
			t.Error(v, w, plan, l, m, e, f)
		}
	}
	l, e := stems.Worth(v, plan)
	m, f := stems.Worth(w, plan)
	same(l, m, e, f)
	l, e = stems.Bound(v)
	m, f = stems.Bound(w)
	same(l, m, e, f)
	l, e = stems.After(v, plan, 3)
	m, f = stems.After(w, plan, 3)
	same(l, m, e, f)
	best, e := stems.Best(v)
	again, f := stems.Best(w)
	samePlan(best, again, e, f)
	best, e = stems.Better(v, plan)
	again, f = stems.Better(w, plan)
	samePlan(best, again, e, f)
	for from := range plan {
		l, e = stems.Rest(v, plan, from)
		m, f = stems.Rest(w, plan, from)
		same(l, m, e, f)
		y, e := stems.Yield(v, plan, from)
		z, f := stems.Yield(w, plan, from)
		same([]api.Frac{y}, []api.Frac{z}, e, f)
		set, e := stems.Reach(v, plan, from)
		other, f := stems.Reach(w, plan, from)
		samePlan([]int{set}, []int{other}, e, f)
	}
	prices, divisor := overOne(bound(t, v))
	for range 2 {
		ok, e := stems.Check(v, prices, divisor)
		if other, f := stems.Check(w, prices, divisor); ok != other || e != api.OK || f != api.OK {
			t.Error(v, w, prices, divisor, ok, other, e, f)
		}
		prices[0]--
	}
}

// P9.12: one act more in a state, before the others or behind them.
func TestMore(t *testing.T) {
	d := dice{seed: 5}
	tried := 0
	for _, x := range samples() {
		n := len(x.world.Acts)
		for s := range n {
			if len(x.world.Acts[s]) == 3 {
				continue
			}
			for place := range len(x.world.Acts[s]) + 1 {
				w := cloned(x.world)
				w.Acts[s] = slices.Insert(w.Acts[s], place, stems.Act{Gain: d.below(19) - 9, Odds: d.odds(n, 3)})
				if !noLess(bound(t, w), bound(t, x.world)) {
					t.Error(x.world, w)
				}
				tried++
			}
		}
	}
	if tried < 300 {
		t.Error(tried)
	}
}
