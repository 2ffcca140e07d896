package stems

import (
	"math/bits"

	"corsage/api"
)

// has reports whether the state s is in a set.
func has(set, s int) bool { return set>>s&1 == 1 }

// reach returns the set of the states that are reached from a state.
func (c course) reach(from int) int {
	met, last := 1<<from, 0
	for met != last {
		last = met
		for s, x := range c.acts {
			for k, n := range x.Odds {
				if has(met, s) && n > 0 {
					met |= 1 << k
				}
			}
		}
	}
	return met
}

// returns reports whether s is reached from every state that is reached from it.
func (c course) returns(s int) bool {
	for k := range c.acts {
		if has(c.reach(s), k) && !has(c.reach(k), s) {
			return false
		}
	}
	return true
}

// again returns the set of the states that come again from a state.
func (c course) again(from int) int {
	set := 0
	for s := range c.acts {
		if has(c.reach(from), s) && c.returns(s) {
			set |= 1 << s
		}
	}
	return set
}

// rest returns the rest in a set of states that all reach each other, and no others.
// It is sought divided by the sums of the acts' odds, such that all numbers are whole: what comes into a state is then what goes out of it.
// One of these equations follows from the others: in its place stands that the rest sums to 1.
func (c course) rest(set int) shares {
	rows := square(len(c.acts))
	right := make([]int, len(c.acts))
	first := bits.TrailingZeros(uint(set))
	for s, x := range c.acts {
		if !has(set, s) {
			rows[s][s] = 1
			continue
		}
		for k, n := range x.Odds {
			rows[k][s] += n
		}
		rows[s][s] -= sum(x.Odds)
		rows[first][s] = sum(x.Odds)
	}
	right[first] = 1
	r := solve(rows, right)
	for s, x := range c.acts {
		r.numbers[s] *= sum(x.Odds)
	}
	return r
}

// openFrom returns the course of what must be a plan of a world with the state from.
func openFrom(w World, plan []int, from int) (course, api.Errno) {
	c, e := open(w, plan)
	if e != api.OK || !isWithin(from, 0, len(plan)-1) {
		return course{}, api.ErrArg
	}
	return c, api.OK
}

// restFrom returns the course of a plan and its rest.
func restFrom(w World, plan []int, from int) (course, shares, api.Errno) {
	c, e := openFrom(w, plan, from)
	if e != api.OK {
		return course{}, shares{}, e
	}
	set := c.again(from)
	// From a state that comes again just those are reached that it reaches and that reach it.
	if c.reach(bits.TrailingZeros(uint(set))) != set {
		return course{}, shares{}, api.ErrState
	}
	return c, c.rest(set), api.OK
}

// Rest returns the rest of a plan.
func Rest(w World, plan []int, from int) ([]api.Frac, api.Errno) {
	_, r, e := restFrom(w, plan, from)
	if e != api.OK {
		return nil, e
	}
	return r.fracs(), api.OK
}

// Yield returns the yield of a plan.
func Yield(w World, plan []int, from int) (api.Frac, api.Errno) {
	c, r, e := restFrom(w, plan, from)
	if e != api.OK {
		return api.Frac{}, e
	}
	gained := 0
	for s, x := range c.acts {
		gained += r.numbers[s] * x.Gain
	}
	return lowest(gained, r.divisor), api.OK
}

// Reach returns the states that are reached.
func Reach(w World, plan []int, from int) (int, api.Errno) {
	c, e := openFrom(w, plan, from)
	if e != api.OK {
		return 0, e
	}
	return c.reach(from), api.OK
}
