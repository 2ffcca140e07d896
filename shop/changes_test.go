package shop_test

import (
	"fmt"
	"slices"
	"strings"
	"testing"

	"corsage/api"
	"corsage/caps"
	"corsage/shop"
)

// numbered returns n lines of a kind with the names a, b, c ..
func numbered(n int, kind, rest string) []string {
	var lines []string
	for i := range n {
		lines = append(lines, kind+" "+string(rune('a'+i))+rest)
	}
	return lines
}

// P10.3: the errors of each change, the first one listed where there are several; a change with an error changes nothing.
func TestChangeErrors(t *testing.T) {
	beds, tables, nodes := numbered(8, "bed", " 1"), numbered(6, "table", ""), numbered(16, "node", "")
	orders := slices.Repeat([]string{"order 0"}, 30)
	pair := []string{"node x", "node y", "node z", "tie x y"}
	for _, x := range []struct {
		before []string
		line   string
		want   api.Errno
	}{
		{beds[:1], "bed a 2", api.ErrState}, {beds[:1], "bed a 1 2", api.ErrState}, {beds, "bed c 0", api.ErrState}, {beds, "bed z 1", api.ErrFull}, {beds, "bed z 1 2", api.ErrFull},
		{beds[:7], "bed h 1 2", api.ErrArg}, {beds[:7], "bed h 9", api.ErrArg}, {nil, "bed a 0", api.ErrArg}, {nil, "bed a 1 0", api.ErrArg}, {nil, "bed a 2 2 3", api.ErrArg}, {nil, "bed a 3 3 3", api.ErrArg}, {nil, "bed a 2 1 1 1 1 1 1 1", api.ErrArg},
		{beds[:7], "bed h 8", api.OK}, {nil, "bed a 1 1 1 1 1 1 1 1", api.OK}, {nil, "bed a 4 4", api.OK}, {nil, "bed a 3 2 2 1", api.OK}, {tables[:1], "bed a 1", api.OK},
		{tables[:1], "table a", api.ErrState}, {tables[:1], "table a 6", api.ErrState}, {tables, "table f 1 1", api.ErrState}, {tables, "table z", api.ErrFull}, {tables, "table z 6", api.ErrFull},
		{tables[:5], "table f 6", api.ErrArg}, {nil, "table a 0 0", api.ErrArg}, {nil, "table a 5 0 1 5", api.ErrArg}, {nil, "table a 0 1 2 3 4 6", api.ErrArg}, {tables[:5], "table f 5 0 4 2 3 1", api.OK}, {nil, "table a 5", api.OK},
		{nodes[:1], "node a", api.ErrState}, {nodes, "node a", api.ErrState}, {nodes, "node z", api.ErrFull}, {nodes[:15], "node p", api.OK},
		{pair, "tie x w", api.ErrNone}, {pair, "tie w x", api.ErrNone}, {pair, "tie w w", api.ErrNone}, {pair, "tie x y", api.ErrState}, {pair, "tie y x", api.ErrState}, {pair, "tie z z", api.ErrState}, {pair, "tie z x", api.OK},
		{pair, "cut x w", api.ErrNone}, {pair, "cut w x", api.ErrNone}, {pair, "cut w w", api.ErrNone}, {pair, "cut x x", api.ErrNone}, {pair, "cut x z", api.ErrNone}, {pair, "cut x y", api.OK}, {pair, "cut y x", api.OK},
		{nil, "card 27", api.ErrArg}, {nil, "card 26", api.OK}, {[]string{"card 0"}, "card 0", api.ErrState}, {[]string{"card 0", "card 1"}, "card 1", api.ErrState}, {[]string{"card 0", "card 1"}, "card 2", api.ErrFull}, {[]string{"card 26", "card 0"}, "card 13", api.ErrFull}, {[]string{"card 0", "card 1"}, "card 3", api.OK},
		{nil, "order 4", api.ErrArg}, {orders, "order 4", api.ErrArg}, {orders, "order 0", api.ErrFull}, {orders[:29], "order 3", api.OK}, {slices.Concat(orders[:10], []string{"order 1", "order 2"}, orders[:18]), "order 1", api.ErrFull},
		{[]string{"fill"}, "fill", api.ErrState}, {nil, "fill", api.OK}, {[]string{"fill", "order 1"}, "fill", api.OK}, {[]string{"fill", "order 0"}, "fill", api.ErrState},
	} {
		disks := newDisks(t, 1000)
		s := opened(t, disks)
		doAll(t, s, x.before...)
		before, bytes := s.State(), contents(disks)
		reply, e := s.Do(x.line)
		if x.want == api.OK {
			if e != api.OK || reply != strings.Fields(x.line)[0] || !slices.Equal(s.Journal(), append(slices.Clone(x.before), x.line)) {
				t.Error(x, reply, e, s.Journal())
			}
			continue
		}
		refused(t, reply == "", e, x.want, x)
		if s.State() != before || fmt.Sprint(contents(disks)) != fmt.Sprint(bytes) {
			t.Error(x, s.State(), before)
		}
	}
}

// P10.3: what cutting and tying leave is seen by the garland's questions.
func TestTies(t *testing.T) {
	s := newShop(t, "node a", "node b", "node c", "node d", "tie a b", "tie c d")
	for _, x := range []struct{ line, kind, odd string }{
		{"tie b c", "", "odd 2"}, {"tie d a", "kind 4 2 0 2", "odd 0"}, {"cut b a", "", "odd 2"}, {"cut c d", "kind 4 1 0 0", "odd 4"}, {"tie d c", "", "odd 2"}, {"tie b a", "kind 4 2 0 2", "odd 0"}, {"tie a c", "", "odd 2"},
	} {
		doAll(t, s, x.line)
		kind, e := s.Ask("kind")
		odd := asked(t, s, "odd")
		if kind != x.kind || (e == api.OK) != (x.kind != "") || odd != x.odd {
			t.Error(x, kind, e, odd)
		}
	}
}

// P10.3, P10.14: what orders leave of the stock.
func TestStock(t *testing.T) {
	s := newShop(t)
	for _, x := range []struct{ line, want string }{
		{"", "stock 0"}, {"order 2", "stock 0"}, {"fill", "stock 3"}, {"order 0", "stock 3"}, {"order 1", "stock 2"}, {"order 3", "stock 0"}, {"fill", "stock 3"}, {"order 3", "stock 0"}, {"fill", "stock 3"}, {"order 2", "stock 1"}, {"fill", "stock 3"}, {"order 1", "stock 2"}, {"order 1", "stock 1"}, {"order 1", "stock 0"},
	} {
		if x.line != "" {
			doAll(t, s, x.line)
		}
		if reply := asked(t, s, "stock"); reply != x.want {
			t.Error(x, reply)
		}
	}
}

// taken returns the cards of a shop.
func taken(s *shop.Shop) []int {
	var cards []int
	for _, line := range s.Journal() {
		var c int
		if n, _ := fmt.Sscanf(line, "card %d", &c); n == 1 {
			cards = append(cards, c)
		}
	}
	slices.Sort(cards)
	return cards
}

// P10.10: in whatever order cards come, those that are taken are a cap, at most 9, and the others could not be added; with the greatest cap there are 9.
func TestCards(t *testing.T) {
	r := random(10)
	first, _ := caps.Greatest(3)
	for round := range 60 {
		s := newShop(t)
		var order []int
		for c := range 27 {
			order = slices.Insert(order, r.below(c+1), c)
		}
		if round == 0 {
			order = append(first, order...)
		}
		for _, c := range order {
			l := taken(s)
			free, _ := caps.Free(3, l)
			want := api.ErrFull
			switch {
			case slices.Contains(l, c):
				want = api.ErrState
			case slices.Contains(free, c):
				want = api.OK
			}
			if _, e := s.Do(fmt.Sprint("card ", c)); e != want {
				t.Error(l, c, e, want)
			}
		}
		l := taken(s)
		if ok, e := caps.Cap(3, l); !ok || e != api.OK || len(l) > 9 || round == 0 && len(l) != 9 || asked(t, s, "room") != "room 0" {
			t.Error(l, ok, e)
		}
	}
}
