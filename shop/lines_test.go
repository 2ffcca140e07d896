package shop_test

import (
	"slices"
	"strings"
	"testing"

	"corsage/api"
	"corsage/shop"
)

// furnished returns a shop with something of everything.
func furnished(t *testing.T) *shop.Shop {
	t.Helper()
	return newShop(t, "bed a 2 1", "bed b 3", "table a 0", "node a", "node b", "node c", "tie a b", "card 4", "fill", "order 1")
}

// isRefused checks that a line is neither a change nor a question.
func isRefused(t *testing.T, s *shop.Shop, line string) {
	t.Helper()
	reply, e := s.Do(line)
	refused(t, reply == "", e, api.ErrForm, "change", line)
	reply, e = s.Ask(line)
	refused(t, reply == "", e, api.ErrForm, "question", line)
}

// goodChanges and goodQuestions are lines that furnished shops take.
func goodChanges() []string {
	return []string{"bed c 1", "bed abcdefgh 1 1 1 1 1 1 1 1", "table b", "table c 0 1 2 3 4 5", "node d", "tie a c", "cut a b", "card 0", "order 0", "fill"}
}

func goodQuestions() []string {
	return []string{"beds", "cross a b", "ways a", "seat", "odd", "room", "turn 3 2", "wreath 4", "sign 3", "arc 5", "plan", "stock"}
}

// P10.3, Errors: lines with other blanks, words or bytes are of no form.
func TestNoLines(t *testing.T) {
	s := furnished(t)
	before := s.State()
	for _, line := range slices.Concat(goodChanges(), goodQuestions()) {
		for _, spoilt := range []string{" " + line, line + " ", line + "\n", line + "\x00", "\t" + line, line + " é", "x" + line, strings.ToUpper(line), strings.Replace(line, " ", "  ", 1) + " ", strings.ReplaceAll(line, " ", "\t") + "\t", line + strings.Repeat(" 1", 30), line + " 1 a", line + " a 1 a"} {
			isRefused(t, s, spoilt)
		}
		words := strings.Split(line, " ")
		for i := range words {
			for _, word := range []string{"", " ", "-1", "+1", "1.0", "00", "01", "0x1", "10000", "00001", "99999999999999999999", "A", "aB", "a1", "1a", "abcdefghi", "a-b", "é", "a\xff", "\xff", "{", "`", "/", ":", "\x7f"} {
				changed := slices.Clone(words)
				changed[i] = word
				isRefused(t, s, strings.Join(changed, " "))
			}
		}
	}
	for _, line := range []string{"", " ", "\n", "\x00", "bouquet", "bed", "bed a", "bed 1", "bed 1 1", "bed a b", "bed a 1 b", "fill 1", "fill a", "fill\x00", "fills", "fil", "Fill", strings.Repeat("a", 61), strings.Repeat("fill ", 100_000), "kind 1", "kinds"} {
		isRefused(t, s, line)
	}
	if s.State() != before {
		t.Error(s.State(), before)
	}
}

// P10.3, Errors: how many words there may be, and that a change is no question, nor a question a change.
func TestWords(t *testing.T) {
	for _, line := range append(goodChanges(), "bed c 1 1 1 1 1 1 1 1") {
		s := furnished(t)
		reply, e := s.Ask(line)
		refused(t, reply == "", e, api.ErrForm, line)
		if reply, e := s.Do(line); reply != strings.Fields(line)[0] || e != api.OK {
			t.Error(line, reply, e)
		}
	}
	s := furnished(t)
	for _, line := range goodQuestions() {
		if reply, e := s.Ask(line); strings.Fields(reply)[0] != strings.Fields(line)[0] || e != api.OK {
			t.Error(line, reply, e)
		}
		reply, e := s.Do(line)
		refused(t, reply == "", e, api.ErrForm, line)
	}
	for _, line := range []string{
		"bed c 1 1 1 1 1 1 1 1 1", "table b 0 1 2 3 4 5 0", "node", "node b c", "node 1", "node d 1", "tie", "tie a", "tie a b c", "tie a 1", "cut", "cut a", "cut a b c", "card", "card a", "card 0 1", "order", "order 1 2", "order a", "table", "table 1", "table b a",
		"beds a", "beds 1", "cross", "cross a", "cross a b a", "cross a 1", "ways", "ways a b", "ways 1", "seat a", "kind a", "odd 1", "room 1", "turn", "turn 1", "turn 1 1 1", "turn a 1", "wreath", "wreath a", "wreath 2 2", "sign", "sign 1 1", "sign a", "arc", "arc 2 3", "arc a", "plan 1", "stock 1",
	} {
		isRefused(t, s, line)
	}
}

// P10.3, Errors: the bounds of names and numbers belong to them.
func TestNamesAndNumbers(t *testing.T) {
	for _, name := range []string{"a", "z", "az", "abcdefgh", "zzzzzzzz", "bed", "fill"} {
		s := newShop(t, "bed "+name+" 1", "table "+name+" 5", "node "+name)
		if reply := asked(t, s, "beds"); reply != "beds "+name {
			t.Error(reply)
		}
		if reply := asked(t, s, "seat"); reply != "seat "+name+":0" {
			t.Error(reply)
		}
		if reply := asked(t, s, "ways "+name); reply != "ways 1" {
			t.Error(reply)
		}
	}
	s := newShop(t)
	for _, number := range []string{"27", "99", "100", "999", "1000", "9999"} {
		for _, line := range []string{"bed a " + number, "table a " + number, "card " + number, "order " + number} {
			reply, e := s.Do(line)
			refused(t, reply == "", e, api.ErrArg, line)
		}
		for _, line := range []string{"turn " + number + " 1", "turn 1 " + number, "wreath " + number, "sign " + number, "arc " + number} {
			reply, e := s.Ask(line)
			refused(t, reply == "", e, api.ErrArg, line)
		}
	}
}
