package shop_test

import (
	"fmt"
	"slices"
	"strings"
	"testing"

	"corsage/api"
	"corsage/rooks"
)

// P10.3: the document's examples and some that were worked out by hand.
func TestReplies(t *testing.T) {
	square := []string{"node x", "node y", "node z", "node w", "tie x y", "tie y z", "tie z w", "tie w x"}
	for _, x := range []struct {
		before []string
		line   string
		want   string
	}{
		{nil, "beds", "beds"}, {[]string{"bed red 1", "bed blue 2"}, "beds", "beds blue red"}, {[]string{"bed b 1", "bed aa 1", "bed a 1", "bed c 1", "bed ab 1"}, "beds", "beds a aa ab b c"},
		{[]string{"bed red 1", "bed blue 2"}, "cross red blue", "cross 2,1:1 3:1"}, {[]string{"bed red 1", "bed blue 2"}, "cross blue blue", "cross 2,2:1 3,1:1 4:1"}, {[]string{"bed a 2 1"}, "cross a a", "cross 2,2,1,1:1 2,2,2:1 3,1,1,1:1 3,2,1:2 3,3:1 4,1,1:1 4,2:1"},
		{[]string{"bed red 1", "bed blue 2"}, "ways blue", "ways 1"}, {[]string{"bed a 2 1"}, "ways a", "ways 2"}, {[]string{"bed a 4 2 1 1"}, "ways a", "ways 90"},
		{[]string{"table ada 0 1", "table bob 2"}, "seat", "seat ada:2 bob:0"}, {[]string{"table b", "table a", "table c 2 3 4"}, "seat", "seat b:0 a:1 c:5"}, {numbered(6, "table", ""), "seat", "seat a:0 b:1 c:2 d:3 e:4 f:5"},
		{square, "kind", "kind 4 2 0 2"}, {square, "odd", "odd 0"}, {square[:1], "odd", "odd 0"}, {square[:5], "odd", "odd 2"}, {square[:7], "odd", "odd 2"},
		{nil, "room", "room 27"}, {[]string{"card 0"}, "room", "room 26"}, {[]string{"card 0", "card 1"}, "room", "room 24"},
		{nil, "turn 3 2", "turn 4"}, {nil, "turn 4 2", "turn 6"}, {nil, "turn 1 8", "turn 8"}, {nil, "turn 2 3", "turn 6"}, {nil, "turn 4 8", "turn 1044"}, {nil, "turn 4 0", "turn 0"},
		{nil, "wreath 4", "wreath 8"}, {nil, "wreath 2", "wreath 4"}, {nil, "wreath 12", "wreath 24"}, {nil, "sign 1", "sign 1"}, {nil, "sign 3", "sign 4"}, {nil, "sign 5", "sign 48"}, {nil, "arc 2", "arc 4"}, {nil, "arc 5", "arc 6"}, {nil, "arc 7", "arc 8"},
		{nil, "plan", "plan 1 1 0 0"}, {[]string{"order 1"}, "plan", "plan 1 1 1 0"}, {[]string{"order 3"}, "plan", "plan 1 0 0 0"}, {nil, "stock", "stock 0"}, {[]string{"fill"}, "stock", "stock 3"},
	} {
		if reply, e := newShop(t, x.before...).Ask(x.line); reply != x.want || e != api.OK {
			t.Error(x, reply, e)
		}
	}
}

// P10.3: the errors of each question.
func TestQuestionErrors(t *testing.T) {
	two := []string{"bed a 4", "bed b 4 1"}
	nodes := numbered(5, "node", "")
	crowd := []string{"table a 0 1 2 3 4", "table b 0 1 2 3 4"}
	for _, x := range []struct {
		before []string
		line   string
		want   api.Errno
	}{
		{nil, "cross a a", api.ErrNone}, {two, "cross a c", api.ErrNone}, {two, "cross c a", api.ErrNone}, {two, "cross b c", api.ErrNone}, {two, "cross a b", api.ErrSize}, {two, "cross b b", api.ErrSize},
		{two, "ways c", api.ErrNone}, {nil, "ways a", api.ErrNone},
		{nil, "seat", api.ErrNone}, {crowd, "seat", api.ErrState}, {[]string{"table a 0 1 2 3 4 5"}, "seat", api.ErrState},
		{nil, "kind", api.ErrNone}, {nodes[:3], "kind", api.ErrNone}, {append(nodes[:3:3], "tie a b"), "kind", api.ErrNone}, {append(nodes[:2:2], "tie a b"), "kind", api.ErrNone}, {nodes[:4], "kind", api.ErrNone}, {append(nodes[:5:5], "tie a b"), "kind", api.ErrNone},
		{nil, "odd", api.ErrNone},
		{nil, "turn 0 1", api.ErrArg}, {nil, "turn 5 1", api.ErrArg}, {nil, "turn 1 9", api.ErrArg}, {nil, "turn 4 9", api.ErrArg}, {nil, "turn 5 9", api.ErrArg},
		{nil, "wreath 0", api.ErrArg}, {nil, "wreath 1", api.ErrArg}, {nil, "wreath 13", api.ErrArg}, {nil, "sign 0", api.ErrArg}, {nil, "sign 6", api.ErrArg},
		{nil, "arc 0", api.ErrArg}, {nil, "arc 1", api.ErrArg}, {nil, "arc 4", api.ErrArg}, {nil, "arc 6", api.ErrArg}, {nil, "arc 9", api.ErrArg}, {nil, "arc 11", api.ErrArg},
	} {
		reply, e := newShop(t, x.before...).Ask(x.line)
		refused(t, reply == "", e, x.want, x)
	}
}

// P10.3: the questions that ask for numbers alone, for all numbers up to 30.
func TestNumberQuestions(t *testing.T) {
	s, m := newShop(t), newModel()
	for n := range 31 {
		lines := []string{fmt.Sprint("wreath ", n), fmt.Sprint("sign ", n), fmt.Sprint("arc ", n)}
		for c := range 12 {
			lines = append(lines, fmt.Sprint("turn ", n, " ", c))
		}
		for _, line := range lines {
			want, f := m.ask(line)
			if reply, e := s.Ask(line); reply != want || e != f {
				t.Error(line, reply, e, want, f)
			}
		}
	}
}

// tabled returns changes that make tables with these sets of unwanted seats.
func tabled(sets []int) []string {
	var lines []string
	for i, set := range sets {
		line := "table " + string(rune('a'+i))
		for j := range 6 {
			if set>>j&1 == 1 {
				line += fmt.Sprint(" ", j)
			}
		}
		lines = append(lines, line)
	}
	return lines
}

// seatsOf returns the seats that a reply tells.
func seatsOf(t *testing.T, reply string) []int {
	t.Helper()
	var seats []int
	for i, word := range strings.Fields(reply)[1:] {
		var j int
		if _, err := fmt.Sscanf(word, string(rune('a'+i))+":%d", &j); err != nil {
			t.Error(reply, err)
		}
		seats = append(seats, j)
	}
	return seats
}

// P10.9: seats are different, nobody has one that is not wanted, and there is no reply just if no seats will do (P1: the barrier is the reason).
func TestSeats(t *testing.T) {
	r := random(9)
	found, missed := 0, 0
	for range 3000 {
		sets := make([]int, 1+r.below(6))
		for i := range sets {
			sets[i] = r.below(64) | r.below(64)
		}
		s := newShop(t, tabled(sets)...)
		reply, e := s.Ask("seat")
		_, _, none := rooks.Barrier(append(slices.Clone(sets), make([]int, 6-len(sets))...))
		if none != api.ErrNone {
			missed++
			refused(t, reply == "", e, api.ErrState, sets)
			continue
		}
		found++
		m := newModel()
		m.doAll(s.Journal())
		want, _ := m.ask("seat")
		seats, given := seatsOf(t, reply), 0
		for i, j := range seats {
			if sets[i]>>j&1 == 1 || given>>j&1 == 1 {
				t.Error(sets, seats)
			}
			given |= 1 << j
		}
		if e != api.OK || len(seats) != len(sets) || reply != want {
			t.Error(sets, reply, e, want)
		}
	}
	if found < 300 || missed < 300 {
		t.Error(found, missed)
	}
}

// P10.3: the plan is the first of the best ones, for up to 4 orders (in any order, as it does not matter when they came) and samples of more.
func TestPlans(t *testing.T) {
	r := random(7)
	var all [][]string
	for n := range 256 {
		var lines []string
		for rest := n; rest > 0; rest /= 4 {
			lines = append(lines, fmt.Sprint("order ", rest%4))
		}
		all = append(all, lines)
	}
	for range 300 {
		var lines []string
		for range r.below(31) {
			lines = append(lines, fmt.Sprint("order ", min(r.below(4), r.below(7))))
		}
		all = append(all, lines)
	}
	met := map[string]bool{}
	for _, lines := range all {
		s, m := newShop(t, lines...), newModel()
		m.doAll(lines)
		want := "plan " + spelled(" ", m.plan()...)
		for range 2 {
			if reply, e := s.Ask("plan"); reply != want || e != api.OK {
				t.Error(lines, reply, e, want)
			}
			s.Do("fill")
		}
		met[want] = true
	}
	if len(met) < 4 {
		t.Error(met)
	}
}

// P10.3: in a plan each number of orders counts modulo 4.
func TestPlanModulo(t *testing.T) {
	plan := func(lines ...string) string { return asked(t, newShop(t, lines...), "plan") }
	for _, n := range []string{"order 0", "order 1", "order 2", "order 3"} {
		for _, rest := range [][]string{nil, {"order 0"}, {"order 1", "order 2"}, {"order 0", "order 0", "order 3", "order 1"}} {
			if a, b := plan(rest...), plan(append(rest, n, n, n, n)...); a != b {
				t.Error(n, rest, a, b)
			}
		}
	}
}
