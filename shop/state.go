package shop

import (
	"slices"
	"strings"

	"corsage/api"
)

// The bounds of a state.
const (
	maxBeds   = 8
	maxSeats  = 6 // and tables
	maxNodes  = 16
	maxStock  = 3 // and number of an order
	maxOrders = 30
	dimension = 3 // of the cards
)

// bed is a kind of flowers with its bed's shape.
type bed struct {
	name  string
	shape []int
}

// table is a table with the set of the seats that its guest does not want.
type table struct {
	name     string
	unwanted int
}

// state is what a shop has.
type state struct {
	beds   []bed // rising by name
	tables []table
	nodes  []string
	ties   []int // for each node the set of those to which it is tied
	cards  []int
	stock  int
	orders [maxStock + 1]int // how many orders there were of each number
}

// clone returns a state that shares nothing that changes with x.
func (x state) clone() state {
	x.beds = slices.Clone(x.beds)
	x.tables = slices.Clone(x.tables)
	x.nodes = slices.Clone(x.nodes)
	x.ties = slices.Clone(x.ties)
	x.cards = slices.Clone(x.cards)
	return x
}

// findBed returns where the bed of this name is, or would be.
func (x state) findBed(name string) (i int, there bool) {
	return slices.BinarySearchFunc(x.beds, name, func(b bed, name string) int { return strings.Compare(b.name, name) })
}

// hasTable reports whether there is a table of this name.
func (x state) hasTable(name string) bool {
	return slices.ContainsFunc(x.tables, func(t table) bool { return t.name == name })
}

// couple returns the numbers of two nodes, if both are there.
func (x state) couple(names []string) (i, j int, there bool) {
	i, j = slices.Index(x.nodes, names[0]), slices.Index(x.nodes, names[1])
	return i, j, i >= 0 && j >= 0
}

// tied reports whether the nodes i and j are tied.
func (x state) tied(i, j int) bool { return x.ties[i]>>j&1 == 1 }

// turnTie ties the nodes i and j if they are not tied, and else unties them.
func (x *state) turnTie(i, j int) {
	x.ties[i] ^= 1 << j
	x.ties[j] ^= 1 << i
}

// after returns the state after a change.
func (x state) after(line string) (state, api.Errno) {
	c, known := changes()[firstWord(line)]
	if !known {
		return state{}, api.ErrForm
	}
	w, e := c.form.read(line)
	if e != api.OK {
		return state{}, e
	}
	next := x.clone()
	if e := c.do(&next, w); e != api.OK {
		return state{}, e
	}
	return next, api.OK
}

// reply returns the reply to a question.
func (x state) reply(line string) (string, api.Errno) {
	q, known := questions()[firstWord(line)]
	if !known {
		return "", api.ErrForm
	}
	w, e := q.form.read(line)
	if e != api.OK {
		return "", e
	}
	told, e := q.ask(x, w)
	if e != api.OK {
		return "", e
	}
	return strings.Join(append([]string{firstWord(line)}, told...), " "), api.OK
}
