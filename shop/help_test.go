package shop_test

import (
	"bytes"
	"slices"
	"strings"
	"testing"

	"corsage/api"
	"corsage/shop"
)

// random is a fixed sequence of numbers.
type random uint64

// below returns the next number of the sequence, from 0 to n - 1.
func (r *random) below(n int) int {
	*r = *r*6364136223846793005 + 1442695040888963407
	return int(uint64(*r) >> 33 % uint64(n))
}

// one returns one of l.
func one[T any](r *random, l ...T) T { return l[r.below(len(l))] }

// refused checks an error, and that all else is zero.
func refused(t *testing.T, zero bool, e, want api.Errno, what ...any) {
	t.Helper()
	if !zero || e != want {
		t.Error(append(what, "zero:", zero, "error:", e, "instead of:", want)...)
	}
}

// newDisks returns three disks of these sizes.
func newDisks(t *testing.T, sizes ...int) [3]*shop.Disk {
	t.Helper()
	var disks [3]*shop.Disk
	for i := range disks {
		d, e := shop.NewDisk(sizes[min(i, len(sizes)-1)])
		if e != api.OK {
			t.Fatal(sizes, e)
		}
		disks[i] = d
	}
	return disks
}

// written returns three disks with these bytes.
func written(t *testing.T, size int, all [3][]byte) [3]*shop.Disk {
	t.Helper()
	disks := newDisks(t, size)
	for i, b := range all {
		if e := disks[i].Append(b); e != api.OK {
			t.Fatal(size, i, e)
		}
	}
	return disks
}

// opened returns the shop of three disks.
func opened(t *testing.T, disks [3]*shop.Disk) *shop.Shop {
	t.Helper()
	s, e := shop.Open(disks[0], disks[1], disks[2])
	if e != api.OK {
		t.Fatal(e)
	}
	return s
}

// newShop returns a shop in which these changes were done.
func newShop(t *testing.T, lines ...string) *shop.Shop {
	t.Helper()
	s := opened(t, newDisks(t, 100_000))
	doAll(t, s, lines...)
	return s
}

// doAll does changes that must be done.
func doAll(t *testing.T, s *shop.Shop, lines ...string) {
	t.Helper()
	for _, line := range lines {
		if reply, e := s.Do(line); e != api.OK || reply != strings.Fields(line)[0] {
			t.Fatal(line, reply, e)
		}
	}
}

// asked returns the reply to a question that must have one.
func asked(t *testing.T, s *shop.Shop, line string) string {
	t.Helper()
	reply, e := s.Ask(line)
	if e != api.OK {
		t.Fatal(line, e)
	}
	return reply
}

// content returns the bytes of a disk, nil if it is lost.
func content(d *shop.Disk) []byte {
	b, _ := d.Read()
	return b
}

// contents returns the bytes of three disks.
func contents(disks [3]*shop.Disk) [3][]byte {
	return [3][]byte{content(disks[0]), content(disks[1]), content(disks[2])}
}

// holds checks the bytes of a disk that is not lost.
func holds(t *testing.T, d *shop.Disk, want []byte, what ...any) {
	t.Helper()
	if b, e := d.Read(); !bytes.Equal(b, want) || e != api.OK {
		t.Error(append(what, b, want, e)...)
	}
}

// have checks the bytes of three disks (those of a lost one are none).
func have(t *testing.T, disks [3]*shop.Disk, want [3][]byte, what ...any) {
	t.Helper()
	for i, b := range contents(disks) {
		if !bytes.Equal(b, want[i]) {
			t.Error(append(what, "disk", i, b, want[i])...)
		}
	}
}

// partsOf returns what of a text of an even number of bytes comes to each disk, bit by bit.
func partsOf(text string) [3][]byte {
	var parts [3][]byte
	half := len(text) / 2
	for i := range half {
		a, b := text[i], text[half+i]
		c := byte(0)
		for bit := byte(1); bit != 0; bit <<= 1 {
			if a&bit != b&bit {
				c |= bit
			}
		}
		parts[0], parts[1], parts[2] = append(parts[0], a), append(parts[1], b), append(parts[2], c)
	}
	return parts
}

// textOf returns a change as the books have it.
func textOf(line string) string {
	if len(line)%2 == 1 {
		return line + "\n"
	}
	return line + "\n\x00"
}

// booksOf returns what the three disks have if they have these texts.
func booksOf(texts ...string) [3][]byte {
	var all [3][]byte
	for _, text := range texts {
		for i, part := range partsOf(text) {
			all[i] = append(append(all[i], byte(len(text)/2)), part...)
		}
	}
	return all
}

// recordsOf returns what the three disks have after these changes.
func recordsOf(lines ...string) [3][]byte {
	var texts []string
	for _, line := range lines {
		texts = append(texts, textOf(line))
	}
	return booksOf(texts...)
}

// wholeRecords returns the whole records with which b begins.
func wholeRecords(b []byte) []string {
	var all []string
	for at := 0; at < len(b); {
		end := at + 1 + int(b[at])
		if b[at] >= 32 || end > len(b) {
			break
		}
		all = append(all, string(b[at:end]))
		at = end
	}
	return all
}

// place returns the records that three disks have at a place, as pointers: nil where there is none.
func place(all [3][]string, k int) (records [3]*string, there int) {
	for i, l := range all {
		if k < len(l) {
			records[i] = &l[k]
			there++
		}
	}
	return records, there
}

// textAt returns the text that comes of the records at one place, "" if there is none.
func textAt(records [3]*string) string {
	for _, a := range records {
		for _, b := range records {
			if a != nil && b != nil && len(*a) != len(*b) {
				return ""
			}
		}
	}
	a, b, c := records[0], records[1], records[2]
	switch {
	case a != nil && b != nil:
		text := (*a)[1:] + (*b)[1:]
		if c != nil && string(partsOf(text)[2]) != (*c)[1:] {
			return ""
		}
		return text
	case a != nil:
		return (*a)[1:] + string(partsOf((*a)[1:] + (*c)[1:])[2])
	}
	return string(partsOf((*b)[1:] + (*c)[1:])[2]) + (*b)[1:]
}

// modelBooks returns the changes of the books of three disks with these bytes (none if they are lost).
func modelBooks(b [3][]byte) []string {
	all := [3][]string{wholeRecords(b[0]), wholeRecords(b[1]), wholeRecords(b[2])}
	m := newModel()
	var journal []string
	for k := 0; ; k++ {
		records, there := place(all, k)
		if there < 2 {
			return journal
		}
		text := textAt(records)
		if n := len(text); n > 0 && text[n-1] == 0 {
			text = text[:n-1]
		}
		if strings.Count(text, "\n") != 1 || !strings.HasSuffix(text, "\n") {
			return journal
		}
		line := strings.TrimSuffix(text, "\n")
		if m.do(line) != api.OK {
			return journal
		}
		journal = append(journal, line)
	}
}

// modelCut returns what remains of the bytes of a disk after the cut, if it should have the bytes want.
func modelCut(b, want []byte) []byte {
	var rest []byte
	books := wholeRecords(want)
	for k, r := range wholeRecords(b) {
		if k >= len(books) || books[k] != r {
			break
		}
		rest = append(rest, r...)
	}
	return rest
}

// opensAs checks that Open of three disks, of which one may be lost, gives the books that the model has, and how it leaves the disks.
func opensAs(t *testing.T, disks [3]*shop.Disk, what ...any) {
	t.Helper()
	before := contents(disks)
	journal := modelBooks(before)
	s, e := shop.Open(disks[0], disks[1], disks[2])
	if e != api.OK || !slices.Equal(s.Journal(), journal) {
		t.Error(append(what, before, e, s.Journal(), journal)...)
		return
	}
	if m := newModel(); m.doAll(journal) != api.OK || s.State() != m.state(journal) {
		t.Error(append(what, before, s.State(), m.state(journal))...)
	}
	for i, want := range recordsOf(journal...) {
		if b, e := disks[i].Read(); e == api.OK && !bytes.Equal(b, want) {
			t.Error(append(what, before, i, b, want)...)
		}
	}
}
