package shop_test

import (
	"maps"
	"regexp"
	"slices"
	"strconv"
	"strings"

	"corsage/api"
	"corsage/schemes"
	"corsage/schur"
	"corsage/stems"
	"corsage/traces"
)

// model is a shop without books, as the chapter tells it.
type model struct {
	beds   map[string][]int
	guests []string
	seats  map[string][]int // of each guest, those that are not wanted
	nodes  []string
	ties   map[string]bool // "a b" and "b a"
	cards  map[int]bool
	stock  int
	orders []int
}

// newModel returns a model to which nothing was done.
func newModel() *model {
	return &model{beds: map[string][]int{}, seats: map[string][]int{}, ties: map[string]bool{}, cards: map[int]bool{}}
}

// The forms of lines, with N for a name and D for a number.
var (
	changeForms   = formsOf("bed N( D){1,8}", "table N( D){0,6}", "node N", "tie N N", "cut N N", "card D", "order D", "fill")
	questionForms = formsOf("beds", "cross N N", "ways N", "seat", "kind", "odd", "room", "turn D D", "wreath D", "sign D", "arc D", "plan", "stock")
)

// formsOf returns forms as expressions.
func formsOf(forms ...string) []*regexp.Regexp {
	var all []*regexp.Regexp
	for _, f := range forms {
		f = strings.NewReplacer("N", "[a-z]{1,8}", "D", "(0|[1-9][0-9]{0,3})").Replace(f)
		all = append(all, regexp.MustCompile(`\A`+f+`\z`))
	}
	return all
}

// fits reports whether a line has one of these forms.
func fits(line string, forms []*regexp.Regexp) bool {
	return slices.ContainsFunc(forms, func(f *regexp.Regexp) bool { return f.MatchString(line) })
}

// parsed returns the first word of a line, the other words, and those that are numbers.
func parsed(line string) (first string, words []string, numbers []int) {
	all := strings.Split(line, " ")
	for _, w := range all[1:] {
		if n, err := strconv.Atoi(w); err == nil {
			numbers = append(numbers, n)
		}
	}
	return all[0], all[1:], numbers
}

// doAll does changes up to the first error.
func (m *model) doAll(lines []string) api.Errno {
	for _, line := range lines {
		if e := m.do(line); e != api.OK {
			return e
		}
	}
	return api.OK
}

// do does a change, or nothing if it returns an error.
func (m *model) do(line string) api.Errno {
	if !fits(line, changeForms) {
		return api.ErrForm
	}
	first, words, numbers := parsed(line)
	switch first {
	case "bed":
		return m.bed(words[0], numbers)
	case "table":
		return m.table(words[0], numbers)
	case "node":
		return m.node(words[0])
	case "tie", "cut":
		return m.tie(first == "tie", words[0], words[1])
	case "card":
		return m.card(numbers[0])
	case "order":
		return m.order(numbers[0])
	}
	if m.stock == 3 {
		return api.ErrState
	}
	m.stock = 3
	return api.OK
}

func (m *model) bed(name string, shape []int) api.Errno {
	sum := 0
	for _, n := range shape {
		sum += n
	}
	isShape := slices.IsSortedFunc(shape, func(a, b int) int { return b - a }) && slices.Min(shape) > 0 && sum <= 8
	switch {
	case m.beds[name] != nil:
		return api.ErrState
	case len(m.beds) >= 8:
		return api.ErrFull
	case !isShape:
		return api.ErrArg
	}
	m.beds[name] = shape
	return api.OK
}

func (m *model) table(name string, seats []int) api.Errno {
	seats = slices.Sorted(slices.Values(seats))
	switch {
	case slices.Contains(m.guests, name):
		return api.ErrState
	case len(m.guests) >= 6:
		return api.ErrFull
	case len(seats) > 0 && slices.Max(seats) > 5, len(slices.Compact(slices.Clone(seats))) < len(seats):
		return api.ErrArg
	}
	m.guests, m.seats[name] = append(m.guests, name), seats
	return api.OK
}

func (m *model) node(name string) api.Errno {
	switch {
	case slices.Contains(m.nodes, name):
		return api.ErrState
	case len(m.nodes) >= 16:
		return api.ErrFull
	}
	m.nodes = append(m.nodes, name)
	return api.OK
}

func (m *model) tie(tie bool, a, b string) api.Errno {
	tied := m.ties[a+" "+b]
	switch {
	case !slices.Contains(m.nodes, a), !slices.Contains(m.nodes, b), !tie && !tied:
		return api.ErrNone
	case tie && (a == b || tied):
		return api.ErrState
	}
	m.ties[a+" "+b], m.ties[b+" "+a] = tie, tie
	return api.OK
}

// isSet reports whether three different cards are a set.
func isSet(a, b, c int) bool {
	for range 3 {
		if (a%3+b%3+c%3)%3 != 0 {
			return false
		}
		a, b, c = a/3, b/3, c/3
	}
	return true
}

// makesSet reports whether some three cards would be a set with c.
func (m *model) makesSet(c int) bool {
	for a := range m.cards {
		for b := range m.cards {
			if a != b && isSet(a, b, c) {
				return true
			}
		}
	}
	return false
}

func (m *model) card(c int) api.Errno {
	switch {
	case c > 26:
		return api.ErrArg
	case m.cards[c]:
		return api.ErrState
	case m.makesSet(c):
		return api.ErrFull
	}
	m.cards[c] = true
	return api.OK
}

func (m *model) order(n int) api.Errno {
	switch {
	case n > 3:
		return api.ErrArg
	case len(m.orders) >= 30:
		return api.ErrFull
	}
	m.orders = append(m.orders, n)
	if m.stock < n {
		m.stock = 0
	} else {
		m.stock -= n
	}
	return api.OK
}

// state returns the State of a shop with this journal.
func (m *model) state(journal []string) string {
	text := ""
	for _, q := range []string{"beds", "seat", "odd", "room", "stock", "plan"} {
		reply, _ := m.ask(q)
		text += reply + "\n"
	}
	for _, line := range journal {
		text += line + "\n"
	}
	return text
}

// spelled returns numbers as words.
func spelled(sep string, l ...int) string {
	var words []string
	for _, n := range l {
		words = append(words, strconv.Itoa(n))
	}
	return strings.Join(words, sep)
}

// ask replies to a question.
func (m *model) ask(line string) (string, api.Errno) {
	if !fits(line, questionForms) {
		return "", api.ErrForm
	}
	first, words, numbers := parsed(line)
	var text string
	e := api.OK
	switch first {
	case "beds":
		text = strings.Join(slices.Sorted(maps.Keys(m.beds)), " ")
	case "cross":
		text, e = m.cross(words[0], words[1])
	case "ways":
		text, e = m.ways(words[0])
	case "seat":
		text, e = m.seat()
	case "kind":
		text, e = m.kind()
	case "odd":
		text, e = m.odd()
	case "room":
		text = m.room()
	case "turn":
		text, e = turn(numbers[0], numbers[1])
	case "wreath":
		text, e = from(numbers[0], 2, []int{4, 6, 8, 10, 12, 14, 16, 18, 20, 22, 24})
	case "sign":
		text, e = from(numbers[0], 1, []int{1, 2, 4, 16, 48})
	case "arc":
		text, e = from(numbers[0], 2, []int{4, 4, 0, 6, 0, 8})
	case "plan":
		text = spelled(" ", m.plan()...)
	case "stock":
		text = strconv.Itoa(m.stock)
	}
	if e != api.OK {
		return "", e
	}
	return strings.TrimSuffix(first+" "+text, " "), api.OK
}

// from returns the number of l for n, if the first one is for least; those for which there is none are 0.
func from(n, least int, l []int) (string, api.Errno) {
	if n < least || n >= least+len(l) || l[n-least] == 0 {
		return "", api.ErrArg
	}
	return strconv.Itoa(l[n-least]), api.OK
}

func (m *model) cross(a, b string) (string, api.Errno) {
	if m.beds[a] == nil || m.beds[b] == nil {
		return "", api.ErrNone
	}
	terms, e := schur.Product(m.beds[a], m.beds[b])
	var words []string
	for _, x := range terms {
		words = append(words, spelled(",", x.Shape...)+":"+strconv.Itoa(x.Count))
	}
	return strings.Join(words, " "), e
}

func (m *model) ways(name string) (string, api.Errno) {
	if m.beds[name] == nil {
		return "", api.ErrNone
	}
	n, e := schur.Standard(m.beds[name])
	return strconv.Itoa(n), e
}

// seatings calls f with all ways to give n of 6 seats, compared from the front, until it returns true.
func seatings(n int, chosen []int, f func([]int) bool) bool {
	if len(chosen) == n {
		return f(chosen)
	}
	for j := range 6 {
		if !slices.Contains(chosen, j) && seatings(n, append(slices.Clone(chosen), j), f) {
			return true
		}
	}
	return false
}

// The seats of the guests that are not there do not matter: whatever is free will do for them.
func (m *model) seat() (string, api.Errno) {
	if len(m.guests) == 0 {
		return "", api.ErrNone
	}
	var words []string
	found := seatings(len(m.guests), nil, func(seats []int) bool {
		words = nil
		for i, name := range m.guests {
			if slices.Contains(m.seats[name], seats[i]) {
				return false
			}
			words = append(words, name+":"+strconv.Itoa(seats[i]))
		}
		return true
	})
	if !found {
		return "", api.ErrState
	}
	return strings.Join(words, " "), api.OK
}

// graph returns the garland as schemes has graphs.
func (m *model) graph() []int {
	g := make([]int, len(m.nodes))
	for i, a := range m.nodes {
		for j, b := range m.nodes {
			if m.ties[a+" "+b] {
				g[i] |= 1 << j
			}
		}
	}
	return g
}

func (m *model) kind() (string, api.Errno) {
	if len(m.nodes) < 4 {
		return "", api.ErrNone
	}
	x, e := schemes.Read(m.graph())
	return spelled(" ", x.N, x.K, x.L, x.M), e
}

func (m *model) odd() (string, api.Errno) {
	count := 0
	for i, a := range m.nodes {
		for j, b := range m.nodes[:i] {
			for _, c := range m.nodes[:j] {
				ties := 0
				for _, pair := range []string{a + " " + b, a + " " + c, b + " " + c} {
					if m.ties[pair] {
						ties++
					}
				}
				count += ties % 2
			}
		}
	}
	if len(m.nodes) == 0 {
		return "", api.ErrNone
	}
	return strconv.Itoa(count), api.OK
}

func (m *model) room() string {
	count := 0
	for c := range 27 {
		if !m.cards[c] && !m.makesSet(c) {
			count++
		}
	}
	return strconv.Itoa(count)
}

// turn gives how many bouquets of k flowers with c colours there are that can't be turned into each other.
func turn(k, c int) (string, api.Errno) {
	if k < 1 || k > 4 {
		return "", api.ErrArg
	}
	around := [][]int{nil, {0}, {1, 0}, {1, 2, 0}, {1, 2, 3, 0}}[k]
	n, e := traces.Bouquets([][]int{around}, c)
	return strconv.Itoa(n), e
}

// world returns the world of the orders.
func (m *model) world() stems.World {
	count := func(n int) int {
		found := 0
		for _, o := range m.orders {
			if o == n {
				found++
			}
		}
		return found % 4
	}
	wait := func(odds ...int) []int {
		if slices.Max(odds) == 0 {
			odds = slices.Repeat([]int{1}, len(odds))
		}
		return append(odds, make([]int, 4-len(odds))...)
	}
	none, one, two, three := count(0), count(1), count(2), count(3)
	full := []int{0, 0, 0, 1}
	return stems.World{Keep: [2]int{3, 4}, Acts: [][]stems.Act{
		{{Gain: 0, Odds: wait(none)}, {Gain: -2, Odds: full}},
		{{Gain: 1, Odds: wait(one, none)}, {Gain: -1, Odds: full}},
		{{Gain: 2, Odds: wait(two, one, none)}, {Gain: 0, Odds: full}},
		{{Gain: 3, Odds: wait(three, two, one, none)}},
	}}
}

// plan returns the first plan whose worth is nowhere less than that of another.
func (m *model) plan() []int {
	var plans [][]int
	var worths [][]api.Frac
	w := m.world()
	for i := range 8 {
		plan := []int{i >> 2, i >> 1 & 1, i & 1, 0}
		worth, _ := stems.Worth(w, plan)
		plans, worths = append(plans, plan), append(worths, worth)
	}
	i := slices.IndexFunc(worths, func(a []api.Frac) bool {
		return !slices.ContainsFunc(worths, func(b []api.Frac) bool {
			for s := range a {
				if a[s].Num*b[s].Den < b[s].Num*a[s].Den {
					return true
				}
			}
			return false
		})
	})
	return plans[i]
}
