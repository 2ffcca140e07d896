package stems_test

import (
	"math"
	"math/big"
	"slices"
	"sync"
	"testing"

	"corsage/api"
	"corsage/stems"
)

// ratio returns the number a / b.
func ratio(a, b int) *big.Rat { return big.NewRat(int64(a), int64(b)) }

// plus, less and times compute with numbers.
func plus(x, y *big.Rat) *big.Rat  { return new(big.Rat).Add(x, y) }
func less(x, y *big.Rat) *big.Rat  { return new(big.Rat).Sub(x, y) }
func times(x, y *big.Rat) *big.Rat { return new(big.Rat).Mul(x, y) }

// plain returns numbers as fractions in lowest terms.
func plain(l []*big.Rat) []api.Frac {
	var all []api.Frac
	for _, x := range l {
		all = append(all, api.Frac{Num: int(x.Num().Int64()), Den: int(x.Denom().Int64())})
	}
	return all
}

// numbers returns fractions as numbers.
func numbers(l []api.Frac) []*big.Rat {
	var all []*big.Rat
	for _, x := range l {
		all = append(all, ratio(x.Num, x.Den))
	}
	return all
}

// chance returns with which chance an act leads to the state k.
func chance(x stems.Act, k int) *big.Rat {
	total := 0
	for _, n := range x.Odds {
		total += n
	}
	return ratio(x.Odds[k], total)
}

// brought returns Gain and a / b times the average of the prices of the next states.
func brought(w stems.World, x stems.Act, prices []*big.Rat) *big.Rat {
	average := new(big.Rat)
	for k, price := range prices {
		average = plus(average, times(chance(x, k), price))
	}
	return plus(ratio(x.Gain, 1), times(ratio(w.Keep[0], w.Keep[1]), average))
}

// chosen returns the act of a plan for each state.
func chosen(w stems.World, plan []int) []stems.Act {
	var acts []stems.Act
	for s, i := range plan {
		acts = append(acts, w.Acts[s][i])
	}
	return acts
}

// solved returns what solves equations (the last number of each row is its right side), or nil if there is not just one solution; it changes the rows.
func solved(rows [][]*big.Rat) []*big.Rat {
	n := len(rows[0]) - 1
	for k := range n {
		i := k
		for i < len(rows) && rows[i][k].Sign() == 0 {
			i++
		}
		if i == len(rows) {
			return nil
		}
		rows[i], rows[k] = rows[k], rows[i]
		for i, row := range rows {
			if i == k {
				continue
			}
			part := new(big.Rat).Quo(row[k], rows[k][k])
			for j := range row {
				row[j] = less(row[j], times(part, rows[k][j]))
			}
		}
	}
	var x []*big.Rat
	for k, row := range rows {
		if k < n {
			x = append(x, new(big.Rat).Quo(row[n], row[k]))
		} else if row[n].Sign() != 0 {
			return nil
		}
	}
	return x
}

// worthOf returns the worth of a plan.
func worthOf(w stems.World, plan []int) []*big.Rat {
	var rows [][]*big.Rat
	for s, x := range chosen(w, plan) {
		var row []*big.Rat
		for k := range plan {
			n := times(ratio(-w.Keep[0], w.Keep[1]), chance(x, k))
			if k == s {
				n = plus(n, ratio(1, 1))
			}
			row = append(row, n)
		}
		rows = append(rows, append(row, ratio(x.Gain, 1)))
	}
	return solved(rows)
}

// reached returns for each state which states are reached from it.
func reached(acts []stems.Act) [][]bool {
	table := make([][]bool, len(acts))
	for s, x := range acts {
		table[s] = make([]bool, len(acts))
		for k, n := range x.Odds {
			table[s][k] = n > 0 || k == s
		}
	}
	for between := range acts {
		for s := range acts {
			for k := range acts {
				if table[s][between] && table[between][k] {
					table[s][k] = true
				}
			}
		}
	}
	return table
}

// comingAgain returns which states come again from a state, and whether they all reach each other.
func comingAgain(acts []stems.Act, from int) (in []bool, together bool) {
	table := reached(acts)
	in = make([]bool, len(acts))
	for s := range acts {
		in[s] = table[from][s]
		for k := range acts {
			if table[s][k] && !table[k][s] {
				in[s] = false
			}
		}
	}
	together = true
	for s := range acts {
		for k := range acts {
			if in[s] && in[k] && !table[s][k] {
				together = false
			}
		}
	}
	return in, together
}

// restOf returns the rest of a plan, or nil if the states that come again do not all reach each other: what a step does not change, sums to 1, and is 0 elsewhere.
func restOf(acts []stems.Act, from int) []*big.Rat {
	in, together := comingAgain(acts, from)
	if !together {
		return nil
	}
	var rows [][]*big.Rat
	var ones []*big.Rat
	for k := range acts {
		var row []*big.Rat
		for s, x := range acts {
			n := new(big.Rat)
			if in[s] && in[k] {
				n = chance(x, k)
			}
			if s == k {
				n = less(n, ratio(1, 1))
			}
			row = append(row, n)
		}
		rows = append(rows, append(row, new(big.Rat)))
		ones = append(ones, ratio(1, 1))
	}
	return solved(append(rows, append(ones, ratio(1, 1))))
}

// plansOf returns all plans of a world, in order.
func plansOf(w stems.World) [][]int {
	plans := [][]int{nil}
	for _, acts := range w.Acts {
		var more [][]int
		for _, plan := range plans {
			for i := range acts {
				more = append(more, append(slices.Clone(plan), i))
			}
		}
		plans = more
	}
	return plans
}

// noLess reports whether in each state x is at least y.
func noLess(x, y []*big.Rat) bool {
	for s := range x {
		if x[s].Cmp(y[s]) < 0 {
			return false
		}
	}
	return true
}

// keeps are all that a world may have.
func keeps() [][2]int {
	return [][2]int{{1, 2}, {1, 3}, {2, 3}, {1, 4}, {2, 4}, {3, 4}}
}

// dice gives the same numbers in every run.
type dice struct{ seed uint64 }

func (d *dice) below(n int) int {
	d.seed = d.seed*6364136223846793005 + 1442695040888963407
	return int(d.seed >> 33 % uint64(n))
}

// odds returns the odds of n states, of which each is 0 with a chance of rare in 8.
func (d *dice) odds(n, rare int) []int {
	l := make([]int, n)
	for k := range l {
		if d.below(8) >= rare {
			l[k] = 1 + d.below(3)
		}
	}
	if slices.Max(l) == 0 {
		l[d.below(n)] = 1 + d.below(3)
	}
	return l
}

// world returns a world with n states whose Gains are from -most to most.
func (d *dice) world(n, rare, most int) stems.World {
	w := stems.World{Keep: keeps()[d.below(6)]}
	for range n {
		var acts []stems.Act
		for range 1 + d.below(3) {
			acts = append(acts, stems.Act{Gain: d.below(2*most+1) - most, Odds: d.odds(n, rare)})
		}
		w.Acts = append(w.Acts, acts)
	}
	return w
}

// doubled returns w with each act a second time, behind the others, where there are less than three.
func doubled(w stems.World) stems.World {
	w = cloned(w)
	for s, acts := range w.Acts {
		for _, x := range acts {
			if len(w.Acts[s]) < 3 {
				w.Acts[s] = append(w.Acts[s], stems.Act{Gain: x.Gain, Odds: slices.Clone(x.Odds)})
			}
		}
	}
	return w
}

// cloned returns w in memory of its own.
func cloned(w stems.World) stems.World {
	var all [][]stems.Act
	for _, acts := range w.Acts {
		acts = slices.Clone(acts)
		for i := range acts {
			acts[i].Odds = slices.Clone(acts[i].Odds)
		}
		all = append(all, acts)
	}
	return stems.World{Keep: w.Keep, Acts: all}
}

// sameWorld reports whether two worlds are the same.
func sameWorld(v, w stems.World) bool {
	sameAct := func(x, y stems.Act) bool { return x.Gain == y.Gain && slices.Equal(x.Odds, y.Odds) }
	return v.Keep == w.Keep && slices.EqualFunc(v.Acts, w.Acts, func(a, b []stems.Act) bool { return slices.EqualFunc(a, b, sameAct) })
}

// single returns a world with one act in each state, of which the Gains and odds are given.
func single(keep [2]int, gains []int, odds ...[]int) stems.World {
	w := stems.World{Keep: keep}
	for s, l := range odds {
		w.Acts = append(w.Acts, []stems.Act{{Gain: gains[s%len(gains)], Odds: l}})
	}
	return w
}

// wide are worlds with numbers as great, and with as few common divisors, as there can be.
func wide() []stems.World {
	var all []stems.World
	for _, keep := range keeps() {
		for _, gains := range [][]int{{9}, {-9}, {9, -9}, {9, 9, -9, 8}} {
			all = append(all,
				single(keep, gains, []int{3, 3, 3, 2}, []int{2, 3, 3, 3}, []int{3, 2, 3, 3}, []int{3, 3, 2, 3}),
				single(keep, gains, []int{0, 3, 3, 2}, []int{3, 0, 2, 3}, []int{2, 3, 0, 3}, []int{3, 3, 1, 0}),
				single(keep, gains, []int{2, 3, 3, 3}, []int{3, 1, 3, 3}, []int{3, 3, 0, 1}, []int{1, 0, 3, 3}))
		}
		three := stems.World{Keep: keep}
		for range 4 {
			three.Acts = append(three.Acts, []stems.Act{{Gain: 9, Odds: []int{3, 3, 3, 2}}, {Gain: 9, Odds: []int{3, 3, 3, 1}}, {Gain: 8, Odds: []int{2, 3, 3, 3}}})
		}
		all = append(all, three)
	}
	return all
}

// split is a world from whose first state, by some plans, two states are reached that never leave.
func split() stems.World {
	return stems.World{Keep: [2]int{3, 4}, Acts: [][]stems.Act{
		{{Gain: 1, Odds: []int{0, 1, 1}}, {Gain: 2, Odds: []int{1, 0, 2}}, {Gain: 2, Odds: []int{3, 2, 1}}},
		{{Gain: 3, Odds: []int{0, 1, 0}}, {Gain: 4, Odds: []int{0, 1, 3}}},
		{{Gain: -5, Odds: []int{0, 0, 3}}, {Gain: 5, Odds: []int{1, 0, 1}}, {Gain: 5, Odds: []int{0, 3, 0}}},
	}}
}

// known is a world with its plans and what they are worth.
type known struct {
	world  stems.World
	plans  [][]int
	worths [][]*big.Rat
}

// best returns all best plans, by their definition, and what they are worth.
func (x known) best() (plans [][]int, worth []*big.Rat) {
	for i, plan := range x.plans {
		if !slices.ContainsFunc(x.worths, func(other []*big.Rat) bool { return !noLess(x.worths[i], other) }) {
			plans, worth = append(plans, plan), x.worths[i]
		}
	}
	return plans, worth
}

// samples are worlds of all sizes, with many ways and with few, with equal acts and without.
var samples = sync.OnceValue(func() []known {
	d := dice{seed: 9}
	worlds := append(wide(), split())
	for n := 1; n <= 4; n++ {
		for _, rare := range []int{0, 3, 5, 7} {
			for _, most := range []int{1, 9} {
				for range 3 {
					w := d.world(n, rare, most)
					worlds = append(worlds, w, doubled(w))
				}
			}
		}
	}
	var all []known
	for _, w := range worlds {
		x := known{world: w, plans: plansOf(w)}
		for _, plan := range x.plans {
			x.worths = append(x.worths, worthOf(w, plan))
		}
		all = append(all, x)
	}
	return all
})

// strange are numbers that are no Gain, odds, act, state or number of steps.
func strange() []int {
	return []int{-1, -10, 4, 10, 12, 64, 1 << 16, 1 << 31, 1 << 32, 1<<32 + 1, math.MaxInt - 1, math.MaxInt, math.MinInt, math.MinInt + 1, math.MinInt + 2}
}

// base is a world to which the plan 0 1 1 belongs.
func base() stems.World {
	return stems.World{Keep: [2]int{2, 3}, Acts: [][]stems.Act{
		{{Gain: 1, Odds: []int{0, 1, 1}}},
		{{Gain: 2, Odds: []int{1, 0, 0}}, {Gain: -3, Odds: []int{0, 3, 0}}},
		{{Gain: 0, Odds: []int{0, 2, 1}}, {Gain: 9, Odds: []int{0, 0, 3}}, {Gain: -9, Odds: []int{3, 3, 3}}},
	}}
}

// noKeeps returns the base with what is no Keep.
func noKeeps() []stems.World {
	pairs := [][2]int{{0, 0}, {0, 1}, {0, 2}, {1, 1}, {2, 1}, {4, 4}, {4, 5}, {1, 5}, {4, 3}, {-1, 2}, {1, -2}, {-2, -1}}
	for _, x := range strange() {
		pairs = append(pairs, [2]int{x, 4}, [2]int{x, x}, [2]int{x, math.MaxInt})
		if x != 4 {
			pairs = append(pairs, [2]int{1, x})
		}
	}
	var all []stems.World
	for _, keep := range pairs {
		w := base()
		w.Keep = keep
		all = append(all, w)
	}
	return all
}

// noActs returns the base with what are no acts, and worlds with too many states.
func noActs() []stems.World {
	var all []stems.World
	add := func(change func(w *stems.World)) {
		w := base()
		change(&w)
		all = append(all, w)
	}
	for s := range 3 {
		x := stems.Act{Gain: 1, Odds: []int{1, 1, 1}}
		for _, acts := range [][]stems.Act{nil, {}, {x, x, x, x}, make([]stems.Act, 100000), slices.Repeat([]stems.Act{x}, 100000)} {
			add(func(w *stems.World) { w.Acts[s] = acts })
		}
	}
	add(func(w *stems.World) { w.Acts = nil })
	add(func(w *stems.World) { w.Acts = [][]stems.Act{} })
	add(func(w *stems.World) { w.Acts = w.Acts[:2] })
	for _, n := range []int{5, 6, 65, 1000} {
		x := stems.Act{Gain: 1, Odds: slices.Repeat([]int{1}, n)}
		add(func(w *stems.World) { w.Acts = slices.Repeat([][]stems.Act{{x}}, n) })
	}
	return all
}

// noAct returns the base with one act that is none.
func noAct() []stems.World {
	var all []stems.World
	for s, i := range []int{0, 1, 2} {
		add := func(change func(x *stems.Act)) {
			w := base()
			change(&w.Acts[s][i])
			all = append(all, w)
		}
		for _, odds := range [][]int{nil, {}, {1}, {1, 1}, {1, 1, 1, 1}, {0, 0, 0}, {1, 1, 1, 0}, {-1, 1, 1}, {1, 0, -1}, {-1, 0, 0}, make([]int, 100000), slices.Repeat([]int{1}, 100000)} {
			add(func(x *stems.Act) { x.Odds = odds })
		}
		for _, n := range strange() {
			add(func(x *stems.Act) { x.Odds = []int{1, n, 1} })
			add(func(x *stems.Act) { x.Odds = []int{n, n, n} })
			if n < -9 || n > 9 {
				add(func(x *stems.Act) { x.Gain = n })
			}
		}
	}
	return all
}

// noWorlds returns what is no world.
func noWorlds() []stems.World {
	return slices.Concat([]stems.World{{}, {Keep: [2]int{1, 2}}}, noKeeps(), noActs(), noAct())
}

// noPlans returns what is no plan of the base.
func noPlans() [][]int {
	all := [][]int{nil, {}, {0}, {0, 1}, {0, 1, 1, 0}, {0, 1, 3}, {0, 2, 1}, {1, 1, 1}, {-1, 1, 1}, make([]int, 100000)}
	for _, x := range strange() {
		all = append(all, []int{x, 1, 1}, []int{0, x, 1}, []int{0, 1, x})
	}
	return all
}

// refused checks an error and that the other result is its zero value.
func refused(t *testing.T, zero bool, e, want api.Errno, about ...any) {
	t.Helper()
	if !zero || e != want {
		t.Error(about, zero, e, want)
	}
}

// call asks one function about a world, a plan and a state; it reports whether all but the error is zero.
type call func(w stems.World, plan []int, from int) (zero bool, e api.Errno)

// of returns the call of a function of a world and a plan.
func of[T any](f func(w stems.World, plan []int) ([]T, api.Errno)) call {
	return func(w stems.World, plan []int, _ int) (bool, api.Errno) {
		l, e := f(w, plan)
		return len(l) == 0, e
	}
}

// ofWorld returns the call of a function of a world.
func ofWorld[T any](f func(w stems.World) ([]T, api.Errno)) call {
	return of(func(w stems.World, _ []int) ([]T, api.Errno) { return f(w) })
}

// ofState returns the call of a function of a world, a plan and a state.
func ofState[T comparable](f func(w stems.World, plan []int, from int) (T, api.Errno)) call {
	return func(w stems.World, plan []int, from int) (bool, api.Errno) {
		var none T
		x, e := f(w, plan, from)
		return x == none, e
	}
}

// planCalls are the functions that have a plan; stateCalls those that have a state as well, and worldCalls those that have neither.
func planCalls() []call {
	after := func(w stems.World, plan []int) ([]api.Frac, api.Errno) { return stems.After(w, plan, 2) }
	return append(stateCalls(), of(stems.Worth), of(stems.Better), of(after))
}

func stateCalls() []call {
	rest := func(w stems.World, plan []int, from int) (bool, api.Errno) {
		l, e := stems.Rest(w, plan, from)
		return len(l) == 0, e
	}
	return []call{rest, ofState(stems.Yield), ofState(stems.Reach)}
}

func worldCalls() []call {
	check := func(w stems.World, plan []int, _ int) (bool, api.Errno) {
		ok, e := stems.Check(w, plan, 1)
		return !ok, e
	}
	return []call{ofWorld(stems.Best), ofWorld(stems.Bound), check}
}

// What the other tests rely on is right.
func TestHelp(t *testing.T) {
	ties, apart, passed := 0, 0, 0
	for _, x := range samples() {
		plans, _ := x.best()
		if len(plans) == 0 {
			t.Error(x.world)
		}
		if len(plans) > 1 {
			ties++
		}
		for _, plan := range x.plans {
			in, together := comingAgain(chosen(x.world, plan), 0)
			if !together {
				apart++
			} else if slices.Contains(in, false) {
				passed++
			}
		}
	}
	if len(samples()) < 250 || ties < 50 || apart < 5 || passed < 500 {
		t.Error(len(samples()), ties, apart, passed)
	}
	if _, e := stems.Worth(base(), []int{0, 1, 1}); e != api.OK {
		t.Error(e)
	}
	if x := solved([][]*big.Rat{{ratio(1, 1), ratio(2, 1), ratio(3, 1)}, {ratio(2, 1), ratio(4, 1), ratio(6, 1)}}); x != nil {
		t.Error(x)
	}
	if x := solved([][]*big.Rat{{ratio(0, 1), ratio(2, 1), ratio(3, 1)}, {ratio(2, 1), ratio(4, 1), ratio(7, 1)}}); !slices.Equal(plain(x), []api.Frac{{Num: 1, Den: 2}, {Num: 3, Den: 2}}) {
		t.Error(x)
	}
}
