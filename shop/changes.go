package shop

import (
	"slices"

	"corsage/api"
	"corsage/caps"
	"corsage/schur"
)

// change is a kind of change. With an error it may leave a state of which nothing is used.
type change struct {
	form form
	do   func(x *state, w words) api.Errno
}

// changes returns all kinds of changes by their first words.
func changes() map[string]change {
	return map[string]change{
		"bed":   {form{1, 1, 8}, addBed},
		"table": {form{1, 0, maxSeats}, addTable},
		"node":  {form{1, 0, 0}, addNode},
		"tie":   {form{2, 0, 0}, tie},
		"cut":   {form{2, 0, 0}, cut},
		"card":  {form{0, 1, 1}, addCard},
		"order": {form{0, 1, 1}, order},
		"fill":  {form{0, 0, 0}, fill},
	}
}

// addBed adds a bed.
func addBed(x *state, w words) api.Errno {
	name, shape := w.names[0], w.numbers
	i, there := x.findBed(name)
	if there {
		return api.ErrState
	}
	if len(x.beds) == maxBeds {
		return api.ErrFull
	}
	if _, e := schur.Standard(shape); e != api.OK {
		return api.ErrArg
	}
	x.beds = slices.Insert(x.beds, i, bed{name, shape})
	return api.OK
}

// addTable adds a table.
func addTable(x *state, w words) api.Errno {
	name := w.names[0]
	if x.hasTable(name) {
		return api.ErrState
	}
	if len(x.tables) == maxSeats {
		return api.ErrFull
	}
	unwanted := 0
	for _, seat := range w.numbers {
		if seat >= maxSeats || unwanted>>seat&1 == 1 {
			return api.ErrArg
		}
		unwanted |= 1 << seat
	}
	x.tables = append(x.tables, table{name, unwanted})
	return api.OK
}

// addNode adds a node without ties.
func addNode(x *state, w words) api.Errno {
	name := w.names[0]
	if slices.Contains(x.nodes, name) {
		return api.ErrState
	}
	if len(x.nodes) == maxNodes {
		return api.ErrFull
	}
	x.nodes, x.ties = append(x.nodes, name), append(x.ties, 0)
	return api.OK
}

// tie ties two nodes.
func tie(x *state, w words) api.Errno {
	i, j, there := x.couple(w.names)
	if !there {
		return api.ErrNone
	}
	if i == j || x.tied(i, j) {
		return api.ErrState
	}
	x.turnTie(i, j)
	return api.OK
}

// cut unties two nodes.
func cut(x *state, w words) api.Errno {
	i, j, there := x.couple(w.names)
	if !there || !x.tied(i, j) {
		return api.ErrNone
	}
	x.turnTie(i, j)
	return api.OK
}

// addCard adds a card.
func addCard(x *state, w words) api.Errno {
	c := w.numbers[0]
	if _, e := caps.Cap(dimension, []int{c}); e != api.OK {
		return api.ErrArg
	}
	i, there := slices.BinarySearch(x.cards, c)
	if there {
		return api.ErrState
	}
	if free, _ := caps.Free(dimension, x.cards); !slices.Contains(free, c) {
		return api.ErrFull
	}
	x.cards = slices.Insert(x.cards, i, c)
	return api.OK
}

// order takes an order; what is above the stock can't be given.
func order(x *state, w words) api.Errno {
	n := w.numbers[0]
	if n > maxStock {
		return api.ErrArg
	}
	count := 0
	for _, k := range x.orders {
		count += k
	}
	if count == maxOrders {
		return api.ErrFull
	}
	x.orders[n]++
	x.stock = max(x.stock-n, 0)
	return api.OK
}

// fill fills the stock.
func fill(x *state, _ words) api.Errno {
	if x.stock == maxStock {
		return api.ErrState
	}
	x.stock = maxStock
	return api.OK
}
