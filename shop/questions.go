package shop

import (
	"slices"
	"strconv"
	"strings"

	"corsage/api"
	"corsage/arcs"
	"corsage/caps"
	"corsage/mirror"
	"corsage/rooks"
	"corsage/schemes"
	"corsage/schur"
	"corsage/signs"
	"corsage/stems"
	"corsage/traces"
)

// The bounds of questions.
const (
	minKind = 4 // nodes of a garland
	maxTurn = 4 // flowers that are turned around
)

// question is a kind of question. The reply is its first word and the words that ask returns.
type question struct {
	form form
	ask  func(x state, w words) ([]string, api.Errno)
}

// questions returns all kinds of questions by their first words.
func questions() map[string]question {
	return map[string]question{
		"beds":   {form{0, 0, 0}, beds},
		"cross":  {form{2, 0, 0}, cross},
		"ways":   {form{1, 0, 0}, ways},
		"seat":   {form{0, 0, 0}, seat},
		"kind":   {form{0, 0, 0}, kind},
		"odd":    {form{0, 0, 0}, odd},
		"room":   {form{0, 0, 0}, room},
		"turn":   {form{0, 2, 2}, turn},
		"wreath": {form{0, 1, 1}, wreath},
		"sign":   {form{0, 1, 1}, sign},
		"arc":    {form{0, 1, 1}, arc},
		"plan":   {form{0, 0, 0}, plan},
		"stock":  {form{0, 0, 0}, stock},
	}
}

// listed returns numbers as words.
func listed(l []int, e api.Errno) ([]string, api.Errno) {
	if e != api.OK {
		return nil, e
	}
	var all []string
	for _, n := range l {
		all = append(all, strconv.Itoa(n))
	}
	return all, api.OK
}

// counted returns one number as a word.
func counted(n int, e api.Errno) ([]string, api.Errno) { return listed([]int{n}, e) }

// beds tells the names of all beds.
func beds(x state, _ words) ([]string, api.Errno) {
	var all []string
	for _, b := range x.beds {
		all = append(all, b.name)
	}
	return all, api.OK
}

// cross tells the product of two beds' shapes.
func cross(x state, w words) ([]string, api.Errno) {
	i, isFirst := x.findBed(w.names[0])
	j, isSecond := x.findBed(w.names[1])
	if !isFirst || !isSecond {
		return nil, api.ErrNone
	}
	terms, e := schur.Product(x.beds[i].shape, x.beds[j].shape)
	if e != api.OK {
		return nil, e
	}
	var all []string
	for _, t := range terms {
		shape, _ := listed(t.Shape, api.OK)
		all = append(all, strings.Join(shape, ",")+":"+strconv.Itoa(t.Count))
	}
	return all, api.OK
}

// ways tells how many ways there are to number the boxes of a bed.
func ways(x state, w words) ([]string, api.Errno) {
	i, there := x.findBed(w.names[0])
	if !there {
		return nil, api.ErrNone
	}
	return counted(schur.Standard(x.beds[i].shape))
}

// seat tells a seat for each table.
func seat(x state, _ words) ([]string, api.Errno) {
	if len(x.tables) == 0 {
		return nil, api.ErrNone
	}
	board := make([]int, maxSeats)
	for i, t := range x.tables {
		board[i] = t.unwanted
	}
	seats, e := rooks.Avoid(board)
	if e != api.OK {
		return nil, api.ErrState
	}
	var all []string
	for i, t := range x.tables {
		all = append(all, t.name+":"+strconv.Itoa(seats[i]))
	}
	return all, api.OK
}

// kind tells the Numbers of the garland.
func kind(x state, _ words) ([]string, api.Errno) {
	if len(x.nodes) < minKind {
		return nil, api.ErrNone
	}
	n, e := schemes.Read(x.ties)
	return listed([]int{n.N, n.K, n.L, n.M}, e)
}

// odd tells how many threes of the garland's nodes are odd.
func odd(x state, _ words) ([]string, api.Errno) {
	if len(x.nodes) == 0 {
		return nil, api.ErrNone
	}
	return counted(schemes.Odd(x.ties))
}

// room tells how many cards can be added.
func room(x state, _ words) ([]string, api.Errno) {
	free, e := caps.Free(dimension, x.cards)
	return counted(len(free), e)
}

// turn tells how many bouquets there are that can be turned around.
func turn(_ state, w words) ([]string, api.Errno) {
	k, colours := w.numbers[0], w.numbers[1]
	if k < 1 || k > maxTurn {
		return nil, api.ErrArg
	}
	around := make([]int, k)
	for i := range around {
		around[i] = (i + 1) % k
	}
	return counted(traces.Bouquets([][]int{around}, colours))
}

// wreath tells how many elements the group of a wreath has.
func wreath(_ state, w words) ([]string, api.Errno) {
	all, e := mirror.All(mirror.Group{Kind: 'I', N: w.numbers[0]})
	return counted(len(all), e)
}

// sign tells the greatest determinant of signs.
func sign(_ state, w words) ([]string, api.Errno) { return counted(signs.Most(w.numbers[0])) }

// arc tells how many points the greatest arcs have.
func arc(_ state, w words) ([]string, api.Errno) { return counted(arcs.Greatest(w.numbers[0])) }

// plan tells what is best to do with each stock.
func plan(x state, _ words) ([]string, api.Errno) {
	w := stems.World{Keep: [2]int{3, 4}}
	for s := range maxStock + 1 {
		acts := []stems.Act{x.waiting(s)}
		if s < maxStock {
			acts = append(acts, stems.Act{Gain: s - 2, Odds: []int{0, 0, 0, 1}})
		}
		w.Acts = append(w.Acts, acts)
	}
	return listed(stems.Best(w))
}

// waiting returns the act of waiting with the stock s: orders that it can give are as likely as they were, modulo 4.
func (x state) waiting(s int) stems.Act {
	odds := make([]int, maxStock+1)
	for k := range s + 1 {
		odds[k] = x.orders[s-k] % 4
	}
	if slices.Max(odds) == 0 {
		for k := range s + 1 {
			odds[k] = 1
		}
	}
	return stems.Act{Gain: s, Odds: odds}
}

// stock tells the stock.
func stock(x state, _ words) ([]string, api.Errno) { return counted(x.stock, api.OK) }
