package shop_test

import (
	"bytes"
	"fmt"
	"slices"
	"strings"
	"testing"

	"corsage/api"
	"corsage/shop"
)

// someLine returns a line, mostly a change.
func someLine(r *random) string {
	name := func() string { return one(r, "a", "b", "c", "dd", "abcdefgh", "z") }
	node := func() string { return string(rune('a' + r.below(18))) }
	numbers := func(n, top int) string {
		text := ""
		for range n {
			text += fmt.Sprint(" ", r.below(top))
		}
		return text
	}
	switch r.below(16) {
	case 0:
		return "bed " + string(rune('a'+r.below(10))) + one(r, " 1", " 2", " 2 1", " 3 1", " 4 4", " 1 1 1", " 1 2", numbers(1+r.below(3), 5))
	case 1:
		return "table " + string(rune('a'+r.below(8))) + numbers(r.below(4), 7)
	case 2, 3, 4:
		return "node " + node()
	case 5, 6, 7:
		return "tie " + node() + " " + node()
	case 8:
		return "cut " + node() + " " + node()
	case 9, 10:
		return "card" + numbers(1, 28)
	case 11, 12:
		return "order" + numbers(1, 5)
	case 13:
		return "fill"
	case 14:
		return one(r, "bed", "table", "node", "tie", "", "fill") + one(r, "", " ") + name() + numbers(r.below(3), 12)
	}
	return one(r, questions(r)...)
}

// questions returns questions of all kinds.
func questions(r *random) []string {
	bed := func() string { return string(rune('a' + r.below(10))) }
	return []string{
		"beds", "cross " + bed() + " " + bed(), "ways " + bed(), "seat", "kind", "odd", "room", fmt.Sprint("turn ", r.below(6), " ", r.below(10)),
		fmt.Sprint("wreath ", r.below(14)), fmt.Sprint("sign ", r.below(7)), fmt.Sprint("arc ", r.below(9)), "plan", "stock",
	}
}

// agrees checks that a shop does a line, or asks it, as the model.
func agrees(t *testing.T, s *shop.Shop, m *model, line string) bool {
	t.Helper()
	want, wrong := "", m.do(line)
	if wrong == api.OK {
		want = strings.Fields(line)[0]
	}
	reply, e := s.Do(line)
	if reply != want || e != wrong {
		t.Errorf("%q: %q %d %q %d", line, reply, e, want, wrong)
	}
	return e == api.OK
}

// askedLike checks that a shop replies to all questions as the model, and that this changes nothing (P10.13).
func askedLike(t *testing.T, s *shop.Shop, m *model, r *random) {
	t.Helper()
	before := s.State()
	for _, line := range append(questions(r), someLine(r), "cross", "bed new 1") {
		want, wrong := m.ask(line)
		if reply, e := s.Ask(line); reply != want || e != wrong {
			t.Errorf("%q: %q %d %q %d", line, reply, e, want, wrong)
		}
		if s.State() != before {
			t.Errorf("%q: %q %q", line, s.State(), before)
		}
	}
}

// P10.3, P10.5, P10.8, P10.13, P10.14: walks of changes and questions, compared with the model.
func TestWalks(t *testing.T) {
	for seed := range 60 {
		r := random(seed)
		disks := newDisks(t, 100_000)
		s, m := opened(t, disks), newModel()
		var journal []string
		for step := range 150 {
			line := someLine(&r)
			if agrees(t, s, m, line) {
				journal = append(journal, line)
			}
			if n := len(asked(t, s, "stock")); n != len("stock 0") || m.stock < 0 || m.stock > 3 {
				t.Error(m.stock)
			}
			if step%30 == 0 {
				askedLike(t, s, m, &r)
			}
		}
		if !slices.Equal(s.Journal(), journal) || s.State() != m.state(journal) {
			t.Error(seed, s.State(), m.state(journal))
		}
		have(t, disks, recordsOf(journal...), seed)
	}
}

// P10.6: after any number of changes any one disk may be lost, and be renewed and healed, and then another one.
// P6: nothing that was acknowledged is lost.
func TestDurability(t *testing.T) {
	lines := []string{"fill", "order 1", "bed a 2 1", "bed abcdefgh 3", "table x 1 2", "node a", "node bcd", "tie a bcd", "card 26", "cut bcd a", "fill", "order 0"}
	for n := range len(lines) + 1 {
		for first := range 3 {
			for second := range 3 {
				disks := newDisks(t, 1000)
				s := opened(t, disks)
				doAll(t, s, lines[:n]...)
				state := s.State()
				disks[first].Lose()
				lostOne := opened(t, disks)
				disks[first].Renew()
				healed, e := lostOne.Heal()
				if e != api.OK || healed != min(n, 1) {
					t.Error(n, first, healed, e)
				}
				have(t, disks, recordsOf(lines[:n]...), n, first)
				disks[second].Lose()
				lostTwo := opened(t, disks)
				for _, x := range []*shop.Shop{lostOne, lostTwo} {
					if !slices.Equal(x.Journal(), lines[:n]) || x.State() != state {
						t.Error(n, first, second, x.State(), state)
					}
				}
				doAll(t, lostTwo, lines[n:]...)
				disks[second].Renew()
				if s := opened(t, disks); !slices.Equal(s.Journal(), lines) {
					t.Error(n, first, second, s.Journal())
				}
			}
		}
	}
}

// P10.6, P10.7, P6: walks in which at most one disk at a time is not in step, with changes in between; the journal is what was replied to.
func TestDisasters(t *testing.T) {
	for seed := range 60 {
		r := random(seed)
		disks := newDisks(t, 3000, 3000, 3000)
		s, m := opened(t, disks), newModel()
		var journal []string
		lost, hurt := false, -1
		for range 120 {
			switch event := r.below(12); {
			case event == 0 && hurt < 0:
				lost, hurt = true, r.below(3)
				disks[hurt].Lose()
			case event == 1 && lost:
				lost = false
				disks[hurt].Renew()
			case event == 2:
				want := 0
				if hurt >= 0 && !lost && !bytes.Equal(content(disks[hurt]), recordsOf(journal...)[hurt]) {
					want = 1
				}
				if n, e := s.Heal(); n != want || e != api.OK {
					t.Error(seed, n, e, want)
				}
				if !lost {
					hurt = -1
				}
			case event == 3:
				s = opened(t, disks)
				if !lost {
					hurt = -1
				}
			default:
				if line := someLine(&r); agrees(t, s, m, line) {
					journal = append(journal, line)
				}
			}
			if !slices.Equal(s.Journal(), journal) {
				t.Fatal(seed, s.Journal(), journal)
			}
		}
		replayed := newShop(t, journal...)
		if s.State() != replayed.State() || s.State() != m.state(journal) {
			t.Error(seed, s.State(), replayed.State())
		}
	}
}

// P10.7: State is that of doing the Journal on a new Shop, or on the same disks behind it.
func TestReplay(t *testing.T) {
	for seed := range 30 {
		r := random(1000 + seed)
		s := newShop(t)
		for range 80 {
			s.Do(someLine(&r))
		}
		journal := s.Journal()
		for n := range len(journal) + 1 {
			x := newShop(t, journal[:n]...)
			doAll(t, x, journal[n:]...)
			if x.State() != s.State() {
				t.Fatal(seed, n, x.State(), s.State())
			}
		}
	}
}

// P10.12: tying and then cutting the same nodes changes no reply.
func TestTieAndCut(t *testing.T) {
	for seed := range 40 {
		r := random(2000 + seed)
		s := newShop(t)
		for range 20 + r.below(80) {
			s.Do(someLine(&r))
		}
		lines := append(questions(&r), questions(&r)...)
		replies := func() []string {
			var all []string
			for _, line := range lines {
				reply, e := s.Ask(line)
				all = append(all, fmt.Sprint(reply, e))
			}
			return all
		}
		before := replies()
		for a := range 18 {
			for b := range 18 {
				x, y := string(rune('a'+a)), string(rune('a'+b))
				if _, e := s.Do("tie " + x + " " + y); e != api.OK {
					continue
				}
				doAll(t, s, one(&r, "cut "+x+" "+y, "cut "+y+" "+x))
				if after := replies(); !slices.Equal(before, after) {
					t.Fatal(seed, x, y, before, after)
				}
			}
		}
	}
}

// P10.13: no question changes State, also where it is refused, nor do changes that are only asked.
func TestAsking(t *testing.T) {
	disks := newDisks(t, 5000)
	s, m := opened(t, disks), newModel()
	r := random(13)
	for range 60 {
		line := someLine(&r)
		s.Do(line)
		m.do(line)
	}
	state, all := s.State(), contents(disks)
	for range 5 {
		askedLike(t, s, m, &r)
	}
	for _, line := range slices.Concat(goodChanges(), goodQuestions()) {
		s.Ask(line)
		if s.State() != state {
			t.Error(line, s.State(), state)
		}
	}
	have(t, disks, all)
}
