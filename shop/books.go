package shop

import (
	"bytes"
	"slices"

	"corsage/api"
)

// maxPart is the greatest length of a part.
const maxPart = 31

// turned returns a with the bits turned that are set in b. Of the parts of a change each one is what comes of the other two.
func turned(a, b []byte) []byte {
	c := make([]byte, len(a))
	for i, x := range a {
		c[i] = x ^ b[i]
	}
	return c
}

// recordsOf returns the records of a change, one for each disk.
func recordsOf(line string) [3][]byte {
	text := append([]byte(line), '\n')
	if len(text)%2 == 1 {
		text = append(text, 0)
	}
	half := len(text) / 2
	length, a, b := []byte{byte(half)}, text[:half], text[half:]
	return [3][]byte{slices.Concat(length, a), slices.Concat(length, b), slices.Concat(length, turned(a, b))}
}

// firstRecord returns the record with which b begins, nil if there is no whole one.
func firstRecord(b []byte) []byte {
	if len(b) == 0 || b[0] > maxPart || len(b) <= int(b[0]) {
		return nil
	}
	return b[:1+int(b[0])]
}

// areAlike reports whether at least two of the records of one place are there, and all that are there are equally long. (It deletes from its own copy of the array.)
func areAlike(records [3][]byte) bool {
	there := slices.DeleteFunc(records[:], func(r []byte) bool { return r == nil })
	return len(there) >= 2 && !slices.ContainsFunc(there, func(r []byte) bool { return len(r) != len(there[0]) })
}

// joined returns the line to which the records of one place belong (nil where a disk has none), if they do.
// That it has no other byte 10 need not be asked: it would be no line.
func joined(records [3][]byte) (line string, ok bool) {
	if !areAlike(records) {
		return "", false
	}
	var parts [3][]byte
	for i, r := range records {
		if r == nil {
			r = turned(records[(i+1)%3], records[(i+2)%3])
		}
		parts[i] = r[1:]
	}
	if !bytes.Equal(parts[2], turned(parts[0], parts[1])) {
		return "", false
	}
	text := bytes.TrimSuffix(slices.Concat(parts[0], parts[1]), []byte{0})
	text, ok = bytes.CutSuffix(text, []byte{'\n'})
	return string(text), ok
}

// readBooks returns the changes of the books of three disks, and the state after them.
func readBooks(disks [3]*Disk) (journal []string, x state) {
	var rest [3][]byte
	for i, d := range disks {
		rest[i] = d.bytes
	}
	for {
		var records [3][]byte
		for i, b := range rest {
			records[i] = firstRecord(b)
		}
		line, ok := joined(records)
		if !ok {
			return journal, x
		}
		next, e := x.after(line)
		if e != api.OK {
			return journal, x
		}
		journal, x = append(journal, line), next
		for i, r := range records {
			rest[i] = rest[i][len(r):]
		}
	}
}

// mend makes what stands on d the records of the books, and leaves as many of its own as it can.
func (d *Disk) mend(books []byte) api.Errno {
	n := 0
	for n < len(books) {
		r := firstRecord(books[n:])
		if !bytes.HasPrefix(d.bytes[n:], r) {
			break
		}
		n += len(r)
	}
	d.Cut(n)
	return d.Append(books[n:])
}
