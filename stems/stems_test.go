package stems_test

import (
	"slices"
	"testing"

	"corsage/api"
	"corsage/stems"
)

// P9.1 to P9.6: what is no world is refused by all functions, also where something else is not valid.
func TestNoWorlds(t *testing.T) {
	for i, w := range noWorlds() {
		for j, f := range slices.Concat(worldCalls(), planCalls()) {
			for _, plan := range [][]int{nil, {0, 1, 1}, {0, 0, 0}, {0, 1, 2}, {9, 9, 9}} {
				zero, e := f(w, plan, 0)
				refused(t, zero, e, api.ErrArg, i, j, plan)
			}
		}
	}
}

// P9.1 to P9.6: likewise what is no plan.
func TestNoPlans(t *testing.T) {
	for i, plan := range noPlans() {
		for j, f := range planCalls() {
			for _, from := range []int{0, 2, 3, -1} {
				zero, e := f(base(), plan, from)
				refused(t, zero, e, api.ErrArg, i, j, from)
			}
		}
	}
}

// P9.5, P9.6: likewise what is no state, also where the states that come again do not all reach each other.
func TestNoStates(t *testing.T) {
	apart := single([2]int{1, 2}, []int{1}, []int{0, 1, 1}, []int{0, 1, 0}, []int{0, 0, 1})
	for _, from := range append(strange(), 3) {
		for j, f := range stateCalls() {
			zero, e := f(base(), []int{0, 1, 1}, from)
			refused(t, zero, e, api.ErrArg, from, j)
			zero, e = f(apart, []int{0, 0, 0}, from)
			refused(t, zero, e, api.ErrArg, from, j)
		}
	}
	for from := range 3 {
		zero, e := ofState(stems.Reach)(apart, []int{0, 0, 0}, from)
		if zero || e != api.OK {
			t.Error(from, e)
		}
	}
}

// P9.1 to P9.6: the bounds of all that is valid are valid themselves.
func TestBounds(t *testing.T) {
	full := stems.World{Keep: [2]int{3, 4}}
	for range api.MaxState {
		full.Acts = append(full.Acts, []stems.Act{{Gain: -9, Odds: []int{0, 0, 0, 1}}, {Gain: 9, Odds: []int{3, 3, 3, 3}}, {Gain: 0, Odds: []int{3, 0, 0, 0}}})
	}
	worlds := []stems.World{full, single([2]int{1, 4}, []int{9}, []int{3})}
	for _, keep := range keeps() {
		worlds = append(worlds, single(keep, []int{-9, 9}, []int{0, 1}, []int{3, 3}))
	}
	for _, w := range worlds {
		n := len(w.Acts)
		last := make([]int, n)
		for s := range last {
			last[s] = len(w.Acts[s]) - 1
		}
		for _, plan := range [][]int{make([]int, n), last} {
			for j, f := range slices.Concat(worldCalls(), planCalls()) {
				for _, from := range []int{0, n - 1} {
					if _, e := f(w, plan, from); e == api.ErrArg {
						t.Error(w, plan, j, from)
					}
				}
			}
		}
	}
}

// P9.1 to P9.6: no argument is changed, and no result shares memory with one, or with a later result.
func TestOwnMemory(t *testing.T) {
	for _, x := range samples() {
		w, plan := cloned(x.world), slices.Clone(x.plans[len(x.plans)/2])
		ask := func() (plans [][]int, fracs [][]api.Frac) {
			best, _ := stems.Best(w)
			better, _ := stems.Better(w, plan)
			bound, _ := stems.Bound(w)
			worth, _ := stems.Worth(w, plan)
			after, _ := stems.After(w, plan, 3)
			rest, _ := stems.Rest(w, plan, 0)
			stems.Yield(w, plan, 0)
			stems.Reach(w, plan, 0)
			return [][]int{best, better}, [][]api.Frac{bound, worth, after, rest}
		}
		plans, fracs := ask()
		var keptPlans [][]int
		for _, l := range plans {
			keptPlans = append(keptPlans, slices.Clone(l))
			for i := range l[:cap(l)] {
				l[:cap(l)][i] = -5
			}
		}
		var keptFracs [][]api.Frac
		for _, l := range fracs {
			keptFracs = append(keptFracs, slices.Clone(l))
			for i := range l[:cap(l)] {
				l[:cap(l)][i] = api.Frac{Num: -5, Den: -5}
			}
		}
		if !sameWorld(w, x.world) || !slices.Equal(plan, x.plans[len(x.plans)/2]) {
			t.Error(w, x.world, plan)
		}
		plans, fracs = ask()
		if !slices.EqualFunc(plans, keptPlans, slices.Equal[[]int]) || !slices.EqualFunc(fracs, keptFracs, slices.Equal[[]api.Frac]) {
			t.Error(x.world, plans, keptPlans, fracs, keptFracs)
		}
	}
	w, l := base(), []int{30, -40, 50}
	stems.Check(w, l, 7)
	if !sameWorld(w, base()) || !slices.Equal(l, []int{30, -40, 50}) {
		t.Error(w, l)
	}
}
