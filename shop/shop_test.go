package shop_test

import (
	"slices"
	"strings"
	"testing"

	"corsage/api"
	"corsage/shop"
)

// P10.2 to P10.5: what Open did not return is no shop.
func TestUnmadeShops(t *testing.T) {
	disks := newDisks(t, 100)
	s := opened(t, disks)
	doAll(t, s, "fill")
	copied := *s
	for i, x := range []*shop.Shop{nil, {}, new(shop.Shop), &copied} {
		for _, line := range []string{"", "fill", "order 1", "stock", "nothing", strings.Repeat("x", 100)} {
			reply, e := x.Do(line)
			refused(t, reply == "", e, api.ErrNil, i, line)
			reply, e = x.Ask(line)
			refused(t, reply == "", e, api.ErrNil, i, line)
		}
		n, e := x.Heal()
		refused(t, n == 0, e, api.ErrNil, i)
		if len(x.Journal()) != 0 || x.State() != "" {
			t.Error(i, x.Journal(), x.State())
		}
	}
	have(t, disks, recordsOf("fill"))
	if s.State() != "beds\n\n\nroom 27\nstock 3\nplan 1 1 0 0\nfill\n" {
		t.Errorf("%q", s.State())
	}
}

// P10.3, P10.8: what changes write, with the document's example; the bytes at each place have an even number of each bit.
func TestRecords(t *testing.T) {
	disks := newDisks(t, 1000)
	s := opened(t, disks)
	doAll(t, s, "fill")
	have(t, disks, [3][]byte{{3, 'f', 'i', 'l'}, {3, 'l', 10, 0}, {3, 10, 99, 108}})
	doAll(t, s, "order 1", "table abcdefgh 0 1 2 3 4 5", "bed abcdefgh 1 1 1 1 1 1 1 1")
	all := recordsOf(s.Journal()...)
	have(t, disks, all)
	for at := 0; at < len(all[0]); at += 1 + int(all[0][at]) {
		var records [3][]byte
		for i, d := range disks {
			records[i] = content(d)[at : at+1+int(all[0][at])]
		}
		for k := range records[0] {
			a, b, c := records[0][k], records[1][k], records[2][k]
			if k == 0 && (a != b || b != c) || k > 0 && a^b^c != 0 {
				t.Error(at, k, a, b, c)
			}
		}
	}
}

// outOfStep are ways to make a disk be no longer in step.
func outOfStep() map[string]func(d *shop.Disk) {
	return map[string]func(d *shop.Disk){
		"lost":    func(d *shop.Disk) { d.Lose() },
		"renewed": func(d *shop.Disk) { d.Lose(); d.Renew() },
		"shorter": func(d *shop.Disk) { d.Cut(len(content(d)) - 1) },
		"longer":  func(d *shop.Disk) { d.Append([]byte{0}) },
		"foreign": func(d *shop.Disk) { d.Append(recordsOf("bed abcdefgh 1 1 1 1 1 1")[0]) },
	}
}

// P10.3: a change is written on the disks that are in step, if these are two; its own error comes first.
func TestDoPower(t *testing.T) {
	for name, spoil := range outOfStep() {
		for i := range 3 {
			disks := newDisks(t, 1000)
			s := opened(t, disks)
			doAll(t, s, "order 1", "node a")
			spoil(disks[i])
			left := content(disks[i])
			doAll(t, s, "fill", "order 2")
			all := recordsOf("order 1", "node a", "fill", "order 2")
			all[i] = left
			have(t, disks, all, name, i)
			spoil(disks[(i+1)%3])
			before, all := s.State(), contents(disks)
			for line, want := range map[string]api.Errno{"order 1": api.ErrPower, "fill": api.ErrPower, "node b": api.ErrPower, "node a": api.ErrState, "order 4": api.ErrArg, "tie a b": api.ErrNone, "fil": api.ErrForm, "stock": api.ErrForm} {
				reply, e := s.Do(line)
				refused(t, reply == "", e, want, name, i, line)
			}
			if reply, e := s.Ask("stock"); reply != "stock 1" || e != api.OK {
				t.Error(reply, e)
			}
			if s.State() != before {
				t.Error(name, i, s.State(), before)
			}
			have(t, disks, all, name, i)
		}
	}
}

// P10.3: without room on a disk that is in step nothing is changed; a disk that is not in step needs none.
func TestDoFull(t *testing.T) {
	for small := range 3 {
		sizes := [3]int{1000, 1000, 1000}
		sizes[small] = len(recordsOf("order 1", "node a")[0])
		disks := newDisks(t, sizes[:]...)
		s := opened(t, disks)
		doAll(t, s, "order 1", "node a")
		before, all := s.State(), contents(disks)
		for line, want := range map[string]api.Errno{"fill": api.ErrFull, "order 1": api.ErrFull, "order 4": api.ErrArg, "node a": api.ErrState, "filled": api.ErrForm} {
			reply, e := s.Do(line)
			refused(t, reply == "", e, want, small, line)
		}
		if s.State() != before || asked(t, s, "stock") != "stock 0" {
			t.Error(small, s.State(), before)
		}
		have(t, disks, all, small)
		disks[(small+1)%3].Lose()
		reply, e := s.Do("fill")
		refused(t, reply == "", e, api.ErrFull, small)
		disks[(small+2)%3].Lose()
		reply, e = s.Do("fill")
		refused(t, reply == "", e, api.ErrPower, small)

		disks = newDisks(t, sizes[:]...)
		s = opened(t, disks)
		doAll(t, s, "order 1", "node a")
		disks[small].Cut(0)
		doAll(t, s, "fill")
		all = recordsOf("order 1", "node a", "fill")
		all[small] = nil
		have(t, disks, all, small)
	}
}

// P10.3, P10.13: changes of all kinds that are refused for want of power or room change no reply, and can be done when there is both again.
func TestRefusedChanges(t *testing.T) {
	lines := []string{"bed b 1", "bed c 2", "bed e 3", "bed f 4", "bed g 5", "table b 1", "table c 2", "table d 3", "node a", "node b", "node c", "node d", "node e", "tie a b", "tie b c", "tie c d", "card 1", "card 4", "card 9", "card 10", "card 23", "order 1", "order 2", "fill", "order 1"}
	more := []string{"bed a 1 1", "bed d 2 1", "bed h 3 1", "table a 0", "node f", "tie a c", "tie e a", "cut b a", "card 0", "card 3", "card 14", "order 2", "order 3", "fill"}
	for k := 12; k <= len(lines); k++ {
		disks := newDisks(t, len(recordsOf(lines[:k]...)[0]))
		s, m := opened(t, disks), newModel()
		doAll(t, s, lines[:k]...)
		m.doAll(lines[:k])
		replies := func() []string {
			var all []string
			for _, q := range []string{"beds", "ways a", "ways b", "ways c", "ways d", "ways e", "ways f", "ways g", "cross b c", "seat", "kind", "odd", "room", "stock", "plan"} {
				reply, e := s.Ask(q)
				want, wrong := m.ask(q)
				if reply != want || e != wrong {
					t.Error(k, q, reply, e, want, wrong)
				}
				all = append(all, reply)
			}
			return append(all, s.State())
		}
		before := replies()
		for round, want := range []api.Errno{api.ErrFull, api.ErrFull, api.ErrPower} {
			if round > 0 {
				disks[round].Lose()
			}
			for _, line := range more {
				x := newModel()
				x.doAll(lines[:k])
				e := x.do(line)
				if e == api.OK {
					e = want
				}
				reply, got := s.Do(line)
				refused(t, reply == "", got, e, k, round, line)
				if after := replies(); !slices.Equal(before, after) {
					t.Fatal(k, round, line, before, after)
				}
			}
		}
	}
}

// P10.3: a record that just fits is written.
func TestDoFits(t *testing.T) {
	for _, line := range []string{"fill", "order 0", "bed abcdefgh 1 1 1 1 1 1 1 1"} {
		size := len(recordsOf(line)[0])
		for small := range 3 {
			for _, less := range []int{0, 1} {
				sizes := [3]int{100, 100, 100}
				sizes[small] = size - less
				disks := newDisks(t, sizes[:]...)
				s := opened(t, disks)
				if _, e := s.Do(line); (e == api.OK) != (less == 0) || e != api.OK && e != api.ErrFull {
					t.Error(line, small, less, e)
				}
				for i, b := range recordsOf(line) {
					holds(t, disks[i], b[:len(b)*(1-less)], line, small, less)
				}
			}
		}
	}
}

// P10.4: Heal writes the one disk that is there and not in step anew.
func TestHeal(t *testing.T) {
	lines := []string{"order 1", "node a", "fill"}
	for name, spoil := range outOfStep() {
		for i := range 3 {
			disks := newDisks(t, 1000)
			s := opened(t, disks)
			doAll(t, s, lines[:2]...)
			if n, e := s.Heal(); n != 0 || e != api.OK {
				t.Error(name, n, e)
			}
			spoil(disks[i])
			doAll(t, s, lines[2])
			want := 1
			if name == "lost" {
				want = 0
			}
			for range 2 {
				if n, e := s.Heal(); n != want || e != api.OK {
					t.Error(name, i, n, e, want)
				}
				want = 0
			}
			all := recordsOf(lines...)
			if name == "lost" {
				all[i] = nil
			}
			have(t, disks, all, name, i)
			if !slices.Equal(s.Journal(), lines) {
				t.Error(name, i, s.Journal())
			}
		}
	}
}

// P10.4: Heal needs two disks in step, and room; nothing else is changed.
func TestHealErrors(t *testing.T) {
	for name, spoil := range outOfStep() {
		for i := range 3 {
			disks := newDisks(t, 1000)
			s := opened(t, disks)
			doAll(t, s, "order 1", "node a")
			spoil(disks[i])
			spoil(disks[(i+1)%3])
			left := contents(disks)
			n, e := s.Heal()
			refused(t, n == 0, e, api.ErrPower, name, i)
			have(t, disks, left, name, i)
		}
	}
	for small := range 3 {
		sizes := [3]int{1000, 1000, 1000}
		sizes[small] = 10
		disks := newDisks(t, sizes[:]...)
		s := opened(t, disks)
		doAll(t, s, "order 1", "node a")
		disks[small].Cut(6)
		doAll(t, s, "fill")
		for range 2 {
			n, e := s.Heal()
			refused(t, n == 0, e, api.ErrFull, small)
		}
		all := recordsOf("order 1", "node a", "fill")
		all[small] = nil
		have(t, disks, all, small)
	}
}

// P10.4: of a shop without changes an empty disk is in step, also a renewed one; another one is cut to nothing.
func TestHealEmpty(t *testing.T) {
	disks := newDisks(t, 10)
	s := opened(t, disks)
	disks[1].Lose()
	disks[1].Renew()
	if n, e := s.Heal(); n != 0 || e != api.OK {
		t.Error(n, e)
	}
	disks[1].Append([]byte{1})
	if n, e := s.Heal(); n != 1 || e != api.OK {
		t.Error(n, e)
	}
	holds(t, disks[1], nil)
	disks[0].Lose()
	disks[0].Renew()
	doAll(t, s, "fill")
	have(t, disks, recordsOf("fill"))
}

// P10.5: Journal and State of a shop that was opened anew, and that Journal is the caller's own.
func TestJournal(t *testing.T) {
	disks := newDisks(t, 1000)
	s := opened(t, disks)
	if len(s.Journal()) != 0 || s.State() != "beds\n\n\nroom 27\nstock 0\nplan 1 1 0 0\n" {
		t.Errorf("%v %q", s.Journal(), s.State())
	}
	lines := []string{"bed red 1", "bed blue 2", "table ada 0 1", "table bob 2", "node x", "card 0", "fill"}
	doAll(t, s, lines[:4]...)
	s = opened(t, disks)
	doAll(t, s, lines[4:]...)
	s.Do("fill")
	s.Do("card 0")
	want := "beds blue red\nseat ada:2 bob:0\nodd 0\nroom 26\nstock 3\nplan 1 1 0 0\nbed red 1\nbed blue 2\ntable ada 0 1\ntable bob 2\nnode x\ncard 0\nfill\n"
	for range 2 {
		journal := s.Journal()
		if !slices.Equal(journal, lines) || s.State() != want {
			t.Errorf("%v %q", journal, s.State())
		}
		for i := range journal[:cap(journal)] {
			journal[:cap(journal)][i] = "order 1"
		}
	}
	doAll(t, s, "table eve 0 1 2 3 4 5")
	if want := strings.Replace(want, "seat ada:2 bob:0", "", 1) + "table eve 0 1 2 3 4 5\n"; s.State() != want {
		t.Errorf("%q", s.State())
	}
}

// P10.2, P10.3: two shops on disks of their own have nothing in common.
func TestTwoShops(t *testing.T) {
	a, b := newShop(t, "bed a 1", "node a", "card 1"), newShop(t)
	doAll(t, b, "bed a 2", "fill")
	if a.State() != "beds a\n\nodd 0\nroom 26\nstock 0\nplan 1 1 0 0\nbed a 1\nnode a\ncard 1\n" || b.State() != "beds a\n\n\nroom 27\nstock 3\nplan 1 1 0 0\nbed a 2\nfill\n" {
		t.Errorf("%q %q", a.State(), b.State())
	}
}
