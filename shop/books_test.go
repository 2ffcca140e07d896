package shop_test

import (
	"bytes"
	"fmt"
	"slices"
	"strings"
	"testing"

	"corsage/api"
	"corsage/shop"
)

// diary is a journal with lines of even and odd lengths, short and long ones.
func diary() []string {
	return []string{"fill", "bed a 2 1", "order 1", "node abcdefgh", "table bob 0 1 2 3", "node b", "tie abcdefgh b", "card 13"}
}

// P10.2: with all disks, any one lost, and any one renewed, Open gives the books and fills the disks.
func TestOpen(t *testing.T) {
	for n := range len(diary()) + 1 {
		journal := diary()[:n]
		all := recordsOf(journal...)
		for lost := -1; lost < 3; lost++ {
			for _, renewed := range []bool{false, true} {
				disks := written(t, 1000, all)
				if lost >= 0 {
					disks[lost].Lose()
					if renewed {
						disks[lost].Renew()
					}
				}
				if s := opened(t, disks); !slices.Equal(s.Journal(), journal) {
					t.Error(n, lost, renewed, s.Journal())
				}
				for i, b := range all {
					if i == lost && !renewed {
						got, e := disks[i].Read()
						refused(t, len(got) == 0, e, api.ErrPower, n, lost)
						continue
					}
					holds(t, disks[i], b, n, lost, renewed)
				}
			}
		}
	}
}

// P10.2: the errors of Open, the first one listed where there are several, and that the disks stay as they are.
func TestOpenErrors(t *testing.T) {
	all := recordsOf(diary()...)
	d := written(t, 1000, all)
	copied := *d[0]
	for _, none := range []*shop.Disk{nil, {}, &copied} {
		for _, x := range [][3]*shop.Disk{{none, d[1], d[2]}, {d[0], none, d[2]}, {d[0], d[1], none}, {none, d[1], d[1]}, {d[0], d[0], none}, {none, none, none}} {
			s, e := shop.Open(x[0], x[1], x[2])
			refused(t, s == nil, e, api.ErrNil, x)
		}
	}
	same := [][3]*shop.Disk{{d[0], d[0], d[1]}, {d[0], d[1], d[0]}, {d[1], d[0], d[0]}, {d[2], d[2], d[2]}}
	for _, x := range same {
		s, e := shop.Open(x[0], x[1], x[2])
		refused(t, s == nil, e, api.ErrArg, x)
	}
	for i := range 3 {
		holds(t, d[i], all[i], i)
	}
	for _, lost := range [][]int{{0, 1}, {0, 2}, {1, 2}, {0, 1, 2}} {
		d := written(t, 1000, all)
		for i := range d {
			if slices.Contains(lost, i) {
				d[i].Lose()
			} else {
				d[i].Append([]byte{9})
			}
		}
		s, e := shop.Open(d[0], d[1], d[2])
		refused(t, s == nil, e, api.ErrPower, lost)
		for _, x := range same {
			s, e := shop.Open(d[0], d[0], d[1])
			refused(t, s == nil, e, api.ErrArg, lost, x)
		}
		s, e = shop.Open(d[0], nil, d[1])
		refused(t, s == nil, e, api.ErrNil, lost)
		for i := range d {
			if !slices.Contains(lost, i) {
				holds(t, d[i], append(slices.Clone(all[i]), 9), lost, i)
			}
		}
	}
}

// P10.2: the books of disks of which any number of bytes remain, with the third one whole, lost, or cut as well.
func TestOpenCutDisks(t *testing.T) {
	all := recordsOf("fill", "node abc", "order 1")
	n := len(all[0])
	for i := range n + 1 {
		for j := range n + 1 {
			for _, k := range []int{0, 5, n - 1, n} {
				for third := range 3 {
					lengths := [3]int{i, j, k}
					var cut [3][]byte
					for at, b := range all {
						cut[at] = b[:lengths[(at+third)%3]]
					}
					opensAs(t, written(t, 1000, cut), lengths, third)
				}
			}
			for lost := range 3 {
				var cut [3][]byte
				cut[(lost+1)%3], cut[(lost+2)%3] = all[(lost+1)%3][:i], all[(lost+2)%3][:j]
				disks := written(t, 1000, cut)
				disks[lost].Lose()
				opensAs(t, disks, i, j, lost)
			}
		}
	}
}

// P10.2: the books of disks of which one byte is another one; where two disks are lost or differ, the books end.
func TestOpenSpoiltDisks(t *testing.T) {
	all := recordsOf(diary()[:3]...)
	for place := range all[0] {
		for i := range all {
			for value := range 256 {
				if value%9 != 0 && value > 33 {
					continue
				}
				spoilt := all
				spoilt[i] = slices.Clone(all[i])
				spoilt[i][place] = byte(value)
				opensAs(t, written(t, 1000, spoilt), place, i, value)
				if value%5 == 0 {
					disks := written(t, 1000, spoilt)
					disks[(i+1)%3].Lose()
					opensAs(t, disks, place, i, value, "one lost")
				}
			}
		}
	}
}

// P10.2: a byte above 31 is no length, so that a disk with one has no record there; a record of length 0 is one, which belongs to no change.
func TestOpenLengths(t *testing.T) {
	all := recordsOf(diary()...)
	for i := range all {
		for _, x := range []struct {
			length int
			want   []string
		}{{32, diary()}, {33, diary()}, {255, diary()}, {0, nil}, {1, nil}, {4, nil}, {31, nil}} {
			spoilt := all
			spoilt[i] = append([]byte{byte(x.length)}, bytes.Repeat([]byte{7}, 300)...)
			if s := opened(t, written(t, 1000, spoilt)); !slices.Equal(s.Journal(), x.want) {
				t.Error(i, x, s.Journal())
			}
		}
	}
	long := strings.Repeat("x", 63) + "\n"
	for _, text := range []string{"", "\n\x00", long} {
		if s := opened(t, written(t, 1000, booksOf(text, "fill\n\x00"))); len(s.Journal()) != 0 {
			t.Error(text, s.Journal())
		}
	}
}

// P10.2: what has no byte 10 at its end, or another one, or an error after the changes before it, ends the books, and all behind it is cut.
func TestOpenTexts(t *testing.T) {
	good := []string{"node a", "node b", "fill"}
	for _, text := range []string{"order 1\n", "tie a b\n", "fill\n\x00", "table a\n", "bed a 1\n"} {
		s := opened(t, written(t, 1000, booksOf(textOf("node a"), textOf("node b"), text, textOf("card 1"))))
		if len(s.Journal()) != 4 {
			t.Errorf("%q %v", text, s.Journal())
		}
	}
	for _, text := range []string{
		"tie a b\x00", "tie a b\n\x00\x00", "tie a b\n\n\x00", "\ntie a b\n\x00", "tie a\nb\n", "tie a b ", "tie a b \n\x00", " tie a b\n\x00", "tie a b\n\n\x00\x00"[:10], "tie a b\x00\n\x00", "\x00\n", "\n\x00", "\n\n", "\x00\x00", "tie  a b\n\x00",
		"tie a c\n", "tie a a\n", "node a\n\x00", "node b\n\x00", "cut a b\n", "fill\n\x00", "card 27\n", "order 4\n", "bed a 0\n", "beds\n\x00", "stock\n", "seat\n\x00", "nodes a\n", "order 1\x00", "order 1 ",
	} {
		if len(text)%2 == 1 {
			t.Error(text)
		}
		texts := []string{textOf(good[0]), textOf(good[1]), textOf(good[2]), text, textOf("order 1"), textOf("order 2")}
		for lost := -1; lost < 3; lost++ {
			disks := written(t, 1000, booksOf(texts...))
			if lost >= 0 {
				disks[lost].Lose()
			}
			opensAs(t, disks, text, lost)
			s := opened(t, disks)
			if !slices.Equal(s.Journal(), good) {
				t.Errorf("%q %v", text, s.Journal())
			}
			for i, b := range recordsOf(good...) {
				if i != lost {
					holds(t, disks[i], b, text, lost)
				}
			}
		}
	}
}

// P10.2: the longest lines that there can be, and a line of 60 bytes and one more, that are no changes.
func TestOpenLongLines(t *testing.T) {
	long := []string{"bed abcdefgh 1 1 1 1 1 1 1 1", "table abcdefgh 0 1 2 3 4", "node abcdefgh", "node zyxwvuts", "tie abcdefgh zyxwvuts", "bed z 1 1 1 1 1 1 1 1"}
	s := opened(t, written(t, 1000, recordsOf(long...)))
	if !slices.Equal(s.Journal(), long) {
		t.Error(s.Journal())
	}
	for n := 58; n <= 62; n++ {
		line := "fill" + strings.Repeat(" ", n-4)
		if s := opened(t, written(t, 1000, recordsOf(line, "fill"))); len(s.Journal()) != 0 {
			t.Error(n, s.Journal())
		}
	}
}

// P10.2: where a disk has no room for what is missing, those before it are done, and it is cut, but nothing is appended.
func TestOpenFull(t *testing.T) {
	all := recordsOf(diary()...)
	whole := len(all[0])
	for small := range 3 {
		for _, left := range []int{0, 1, 6, 11, whole - 1} {
			for size := max(left, 1); size <= whole; size++ {
				sizes := [3]int{whole, whole, whole}
				sizes[small] = size
				disks := newDisks(t, sizes[:]...)
				for i, b := range all {
					disks[i].Append(b[:whole-whole/3*min(1, i)])
				}
				disks[small].Cut(0)
				disks[small].Append(all[small][:left])
				want := contents(disks)
				journal := modelBooks(want)
				need := recordsOf(journal...)
				e := api.OK
				for i := range disks {
					want[i] = need[i]
					if i == small && size < len(need[i]) {
						e = api.ErrFull
						want[i] = modelCut(content(disks[i]), need[i])
						for later := i + 1; later < 3; later++ {
							want[later] = content(disks[later])
						}
						break
					}
				}
				s, got := shop.Open(disks[0], disks[1], disks[2])
				if got != e || (s == nil) != (e != api.OK) {
					t.Error(small, left, size, got, e)
				}
				for i, b := range want {
					holds(t, disks[i], b, small, left, size, "disk", i)
				}
			}
		}
	}
}

// P10.2: what is not of the books is cut also where it would have no room: a disk keeps what it has in common.
func TestOpenKeeps(t *testing.T) {
	all := recordsOf(diary()...)
	for i := range all {
		spoilt := [3][]byte{}
		for at, b := range all {
			spoilt[at] = slices.Clone(b)
		}
		spoilt[i] = append(spoilt[i][:15], bytes.Repeat([]byte{200}, 985)...)
		disks := written(t, 1000, spoilt)
		if s := opened(t, disks); !slices.Equal(s.Journal(), diary()) {
			t.Error(i, s.Journal())
		}
		for at, b := range all {
			holds(t, disks[at], b, i, at)
		}
	}
}

// P10.2: Open of disks that a fixed sequence made of records, some of them spoilt.
func TestOpenSamples(t *testing.T) {
	r := random(2)
	for round := range 2000 {
		var texts []string
		for range r.below(7) {
			line := one(&r, "fill", "order 1", "order 3", "node a", "node b", "node c", "tie a b", "cut a b", "card 3", "card 4", "bed a 1", "table a 1")
			texts = append(texts, one(&r, textOf(line), textOf(line), textOf(line), textOf(line), line+strings.Repeat("\x00", len(line)%2)))
		}
		all := booksOf(texts...)
		for i := range all {
			switch b := all[i]; r.below(6) {
			case 0:
				all[i] = b[:r.below(len(b)+1)]
			case 1:
				all[i] = append(b, byte(r.below(40)))
			case 2:
				if len(b) > 0 {
					b[r.below(len(b))] ^= 1 << r.below(8)
				}
			}
		}
		disks := written(t, 200, all)
		if lost := r.below(6); lost < 3 {
			disks[lost].Lose()
		}
		opensAs(t, disks, fmt.Sprintf("%d %q", round, texts))
	}
}
