package stems_test

import (
	"math/big"
	"slices"
	"testing"

	"corsage/api"
	"corsage/stems"
)

// reachable returns worlds with one act in each state: for up to 3 states all ways in which states can lead to others, for 4 states every 11th.
func reachable() []stems.World {
	d := dice{seed: 4}
	var all []stems.World
	for n := 1; n <= 4; n++ {
		ways, step := 1, 1
		for range n {
			ways *= 1<<n - 1
		}
		if n == 4 {
			step = 11
		}
		for x := 0; x < ways; x += step {
			w := stems.World{Keep: keeps()[x%6]}
			for rest, s := x, 0; s < n; s++ {
				odds := make([]int, n)
				for k := range odds {
					odds[k] = (rest%(1<<n-1) + 1) >> k & 1 * (1 + d.below(3))
				}
				w.Acts = append(w.Acts, []stems.Act{{Gain: d.below(19) - 9, Odds: odds}})
				rest /= 1<<n - 1
			}
			all = append(all, w)
		}
	}
	return all
}

// eachCourse calls visit with all plans of the samples and of the worlds that reachable returns.
func eachCourse(visit func(w stems.World, plan []int, acts []stems.Act)) {
	for _, w := range reachable() {
		plan := make([]int, len(w.Acts))
		visit(w, plan, chosen(w, plan))
	}
	for _, x := range samples() {
		for _, plan := range x.plans {
			visit(x.world, plan, chosen(x.world, plan))
		}
	}
}

// P9.6: against a table of who reaches whom.
func TestReach(t *testing.T) {
	eachCourse(func(w stems.World, plan []int, acts []stems.Act) {
		table := reached(acts)
		for from := range plan {
			want := 0
			for k, yes := range table[from] {
				if yes {
					want += 1 << k
				}
			}
			if set, e := stems.Reach(w, plan, from); set != want || e != api.OK {
				t.Error(w, plan, from, set, want, e)
			}
		}
	})
	// A long way round, and a state from which nothing else is reached.
	w := single([2]int{1, 2}, []int{0}, []int{0, 0, 0, 1}, []int{0, 1, 0, 0}, []int{0, 1, 0, 0}, []int{0, 0, 1, 0})
	for from, want := range []int{15, 2, 6, 14} {
		if set, e := stems.Reach(w, make([]int, 4), from); set != want || e != api.OK {
			t.Error(from, set, want, e)
		}
	}
}

// stepped returns the chances of all states one step after those of r.
func stepped(acts []stems.Act, r []*big.Rat) []*big.Rat {
	var next []*big.Rat
	for k := range acts {
		total := new(big.Rat)
		for s, x := range acts {
			total = plus(total, times(r[s], chance(x, k)))
		}
		next = append(next, total)
	}
	return next
}

// P9.5, P9.11: by the document's conditions: it sums to 1, a step makes the same of it, and it is above 0 just where states come again; where these do not all reach each other it is refused.
func TestRest(t *testing.T) {
	apart, passed := 0, 0
	eachCourse(func(w stems.World, plan []int, acts []stems.Act) {
		for from := range plan {
			in, together := comingAgain(acts, from)
			l, e := stems.Rest(w, plan, from)
			if !together {
				apart++
				refused(t, len(l) == 0, e, api.ErrState, w, plan, from)
				continue
			}
			if len(l) != len(plan) || e != api.OK {
				t.Error(w, plan, from, l, e)
				continue
			}
			r, total := numbers(l), new(big.Rat)
			for s, x := range r {
				total = plus(total, x)
				if x.Sign() < 0 || (x.Sign() > 0) != in[s] {
					t.Error(w, plan, from, l)
				}
				if !in[s] {
					passed++
				}
			}
			if !slices.Equal(plain(r), l) || total.Cmp(ratio(1, 1)) != 0 || !slices.Equal(plain(stepped(acts, r)), l) {
				t.Error(w, plan, from, l)
			}
		}
	})
	if apart < 100 || passed < 100 {
		t.Error(apart, passed)
	}
}

// P9.5, P9.11: against elimination with fractions; Yield is between the least and the greatest Gain.
func TestRestAndYield(t *testing.T) {
	for _, x := range samples() {
		for _, plan := range x.plans {
			acts := chosen(x.world, plan)
			for from := range plan {
				want := restOf(acts, from)
				l, e := stems.Rest(x.world, plan, from)
				y, f := stems.Yield(x.world, plan, from)
				if want == nil {
					refused(t, len(l) == 0, e, api.ErrState, x.world, plan, from)
					refused(t, y == api.Frac{}, f, api.ErrState, x.world, plan, from)
					continue
				}
				total, low, high := new(big.Rat), 9, -9
				for s, act := range acts {
					total = plus(total, times(want[s], ratio(act.Gain, 1)))
					low, high = min(low, act.Gain), max(high, act.Gain)
				}
				if !slices.Equal(l, plain(want)) || e != api.OK {
					t.Error(x.world, plan, from, l, plain(want), e)
				}
				if y != plain([]*big.Rat{total})[0] || f != api.OK {
					t.Error(x.world, plan, from, y, total, f)
					continue
				}
				if got := ratio(y.Num, y.Den); got.Cmp(ratio(low, 1)) < 0 || got.Cmp(ratio(high, 1)) > 0 {
					t.Error(x.world, plan, from, y, low, high)
				}
			}
		}
	}
}

// P9.5: the examples, and what depends on where one begins.
func TestRestExamples(t *testing.T) {
	half := api.Frac{Num: 1, Den: 2}
	none, one := api.Frac{Num: 0, Den: 1}, api.Frac{Num: 1, Den: 1}
	apart := single([2]int{1, 2}, []int{3, 4, -5}, []int{0, 1, 1}, []int{0, 1, 0}, []int{0, 0, 1})
	around := single([2]int{3, 4}, []int{3, -5, 3, 5}, []int{0, 2, 0, 0}, []int{3, 0, 0, 0}, []int{0, 0, 0, 1}, []int{0, 0, 1, 2})
	for _, x := range []struct {
		w     stems.World
		plan  []int
		from  int
		rest  []api.Frac
		yield api.Frac
		e     api.Errno
	}{
		{two(), []int{0, 0}, 1, []api.Frac{half, half}, api.Frac{Num: 3, Den: 2}, api.OK},
		{two(), []int{0, 1}, 0, []api.Frac{none, one}, one, api.OK},
		{apart, []int{0, 0, 0}, 0, nil, api.Frac{}, api.ErrState},
		{apart, []int{0, 0, 0}, 1, []api.Frac{none, one, none}, api.Frac{Num: 4, Den: 1}, api.OK},
		{apart, []int{0, 0, 0}, 2, []api.Frac{none, none, one}, api.Frac{Num: -5, Den: 1}, api.OK},
		{around, []int{0, 0, 0, 0}, 0, []api.Frac{half, half, none, none}, api.Frac{Num: -1, Den: 1}, api.OK},
		{around, []int{0, 0, 0, 0}, 3, []api.Frac{none, none, {Num: 1, Den: 4}, {Num: 3, Den: 4}}, api.Frac{Num: 9, Den: 2}, api.OK},
		{single([2]int{1, 3}, []int{0}, []int{1, 1}, []int{1, 1}), []int{0, 0}, 0, []api.Frac{half, half}, none, api.OK},
	} {
		if l, e := stems.Rest(x.w, x.plan, x.from); !slices.Equal(l, x.rest) || e != x.e {
			t.Error(x, l, e)
		}
		if y, e := stems.Yield(x.w, x.plan, x.from); y != x.yield || e != x.e {
			t.Error(x, y, e)
		}
	}
}
