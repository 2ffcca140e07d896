package stems

import (
	"slices"

	"corsage/api"
)

// evenly is the least number that all sums of odds, from 1 to 12, divide.
const evenly = 27720

// whole returns what averages that count a / b are multiplied by to be whole.
func whole(keep [2]int) int { return keep[1] * evenly }

// brings returns what an act brings if p is what counts in the next states, over p's divisor times whole(keep).
// This is below 10^17 for all prices and steps that there are, so it fits into an int.
func brings(keep [2]int, x Act, p shares) int {
	next := 0
	for s, n := range x.Odds {
		next += n * p.numbers[s]
	}
	return x.Gain*p.divisor*whole(keep) + keep[0]*next*(evenly/sum(x.Odds))
}

// worth returns the worth of c.
// Each equation is multiplied by b and by the sum of the act's odds, such that its numbers are whole. As a is less than b, the diagonal outweighs the rest of each row: there is just one solution.
func (c course) worth() shares {
	rows := square(len(c.acts))
	right := make([]int, len(c.acts))
	for s, x := range c.acts {
		times := c.keep[1] * sum(x.Odds)
		for k, n := range x.Odds {
			rows[s][k] = -c.keep[0] * n
		}
		rows[s][s] += times
		right[s] = times * x.Gain
	}
	return solve(rows, right)
}

// step returns what is gained in one step more, if p is gained in those that follow.
func (c course) step(p shares) shares {
	more := shares{divisor: p.divisor * whole(c.keep)}
	for _, x := range c.acts {
		more.numbers = append(more.numbers, brings(c.keep, x, p))
	}
	return more
}

// improved returns the plan that takes in each state the first act that brings most if p is what counts in the next states, but the act of plan if that brings as much.
func improved(w World, plan []int, p shares) []int {
	next := slices.Clone(plan)
	for s, acts := range w.Acts {
		most := brings(w.Keep, acts[plan[s]], p)
		for i, x := range acts {
			if n := brings(w.Keep, x, p); n > most {
				next[s], most = i, n
			}
		}
	}
	return next
}

// highest returns the worth of a best plan.
// It ends: each plan is worth more than the one before it, and there are few plans.
func highest(w World) shares {
	plan := make([]int, len(w.Acts))
	for {
		p := follow(w, plan).worth()
		next := improved(w, plan, p)
		if slices.Equal(next, plan) {
			return p
		}
		plan = next
	}
}

// bounds reports whether the prices p bound w.
func bounds(w World, p shares) bool {
	return all(w.Acts, func(s int, acts []Act) bool {
		return all(acts, func(_ int, x Act) bool { return p.numbers[s]*whole(w.Keep) >= brings(w.Keep, x, p) })
	})
}

// Worth returns the worth of a plan.
func Worth(w World, plan []int) ([]api.Frac, api.Errno) {
	c, e := open(w, plan)
	if e != api.OK {
		return nil, e
	}
	return c.worth().fracs(), api.OK
}

// Best returns the first best plan.
func Best(w World) ([]int, api.Errno) {
	if !isWorld(w) {
		return nil, api.ErrArg
	}
	// The best plans are those whose acts all bring most at the highest worth. Held against the plan of first acts, in each state the first such act is taken.
	return improved(w, make([]int, len(w.Acts)), highest(w)), api.OK
}

// Better returns a better plan.
func Better(w World, plan []int) ([]int, api.Errno) {
	c, e := open(w, plan)
	if e != api.OK {
		return nil, e
	}
	next := improved(w, plan, c.worth())
	if slices.Equal(next, plan) {
		return nil, api.ErrNone
	}
	return next, api.OK
}

// Bound returns the worth of a best plan.
func Bound(w World) ([]api.Frac, api.Errno) {
	if !isWorld(w) {
		return nil, api.ErrArg
	}
	return highest(w).fracs(), api.OK
}

// Check reports whether prices bound a world.
func Check(w World, numbers []int, divisor int) (bool, api.Errno) {
	if !isWorld(w) {
		return false, api.ErrArg
	}
	return arePrices(w, numbers, divisor) && bounds(w, shares{numbers: numbers, divisor: divisor}), api.OK
}

// After returns what is gained in some steps.
func After(w World, plan []int, steps int) ([]api.Frac, api.Errno) {
	c, e := open(w, plan)
	if e != api.OK || !isWithin(steps, 0, maxSteps) {
		return nil, api.ErrArg
	}
	p := shares{numbers: make([]int, len(plan)), divisor: 1}
	for range steps {
		p = c.step(p)
	}
	return p.fracs(), api.OK
}
