package shop

import (
	"slices"

	"corsage/api"
)

// maxSize is the greatest size of a disk.
const maxSize = 1_000_000

// Disk is bytes that may be lost.
type Disk struct {
	self  *Disk // of a copy, which no function returned, it is another disk
	size  int
	bytes []byte
	lost  bool
}

// NewDisk returns an empty disk.
func NewDisk(size int) (*Disk, api.Errno) {
	if size < 1 || size > maxSize {
		return nil, api.ErrArg
	}
	d := &Disk{size: size}
	d.self = d
	return d, api.OK
}

// isMade reports whether NewDisk returned d.
func (d *Disk) isMade() bool { return d != nil && d.self == d }

// power returns an error if d has no bytes to use.
func (d *Disk) power() api.Errno {
	switch {
	case !d.isMade():
		return api.ErrNil
	case d.lost:
		return api.ErrPower
	}
	return api.OK
}

// hasRoom reports whether n bytes more have room on d.
func (d *Disk) hasRoom(n int) bool { return len(d.bytes)+n <= d.size }

// Append adds bytes.
func (d *Disk) Append(b []byte) api.Errno {
	if e := d.power(); e != api.OK {
		return e
	}
	if !d.hasRoom(len(b)) {
		return api.ErrFull
	}
	d.bytes = append(d.bytes, b...)
	return api.OK
}

// Cut keeps the first n bytes.
func (d *Disk) Cut(n int) api.Errno {
	if e := d.power(); e != api.OK {
		return e
	}
	if n < 0 || n > len(d.bytes) {
		return api.ErrArg
	}
	d.bytes = d.bytes[:n]
	return api.OK
}

// Read returns the bytes.
func (d *Disk) Read() ([]byte, api.Errno) {
	if e := d.power(); e != api.OK {
		return nil, e
	}
	return slices.Clone(d.bytes), api.OK
}

// Lose loses the disk.
func (d *Disk) Lose() {
	if d.isMade() {
		d.lost, d.bytes = true, nil
	}
}

// Renew makes a lost disk an empty one.
func (d *Disk) Renew() {
	if d.isMade() {
		d.lost = false
	}
}
