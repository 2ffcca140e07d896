package shop_test

import (
	"bytes"
	"math"
	"slices"
	"testing"

	"corsage/api"
	"corsage/shop"
)

// P10.1: which sizes there are, and that a disk has room for so many bytes.
func TestNewDisk(t *testing.T) {
	for _, size := range []int{math.MinInt, -1, 0, 1_000_001, math.MaxInt} {
		d, e := shop.NewDisk(size)
		refused(t, d == nil, e, api.ErrArg, size)
	}
	for _, size := range []int{1, 2, 1_000_000} {
		d := newDisks(t, size)[0]
		holds(t, d, nil, size)
		full := bytes.Repeat([]byte{7}, size)
		for _, x := range []struct {
			b    []byte
			e    api.Errno
			want []byte
		}{{append([]byte{1}, full...), api.ErrFull, nil}, {full, api.OK, full}, {[]byte{1}, api.ErrFull, full}, {nil, api.OK, full}, {[]byte{}, api.OK, full}} {
			if e := d.Append(x.b); e != x.e {
				t.Error(size, len(x.b), e)
			}
			holds(t, d, x.want, size)
		}
	}
}

// P10.1: what remains after a Cut.
func TestCut(t *testing.T) {
	for n := range 6 {
		d := newDisks(t, 5)[0]
		d.Append([]byte{9, 8})
		d.Append([]byte{7, 6, 5})
		for _, wrong := range []int{math.MinInt, -1, 6, math.MaxInt} {
			if e := d.Cut(wrong); e != api.ErrArg {
				t.Error(wrong, e)
			}
			holds(t, d, []byte{9, 8, 7, 6, 5}, wrong)
		}
		if e := d.Cut(n); e != api.OK {
			t.Error(n, e)
		}
		want := []byte{9, 8, 7, 6, 5}[:n]
		holds(t, d, want, n)
		if e := d.Cut(n + 1); e != api.ErrArg {
			t.Error(n, e)
		}
		if e := d.Append(make([]byte, 6-n)); e != api.ErrFull {
			t.Error(n, e)
		}
		if e := d.Append(make([]byte, 5-n)); e != api.OK {
			t.Error(n, e)
		}
		holds(t, d, append(want, make([]byte, 5-n)...), n)
	}
}

// P10.1: a lost disk has no power, whatever else is wrong; a renewed one is empty, and no other can be renewed.
func TestLose(t *testing.T) {
	d := newDisks(t, 3)[0]
	d.Append([]byte{1, 2})
	d.Renew()
	holds(t, d, []byte{1, 2}, "renewed, but not lost")
	for range 2 {
		d.Lose()
		for _, b := range [][]byte{nil, {1}, {1, 2, 3, 4}} {
			if e := d.Append(b); e != api.ErrPower {
				t.Error(b, e)
			}
		}
		for _, n := range []int{-1, 0, 1, 2, 9} {
			if e := d.Cut(n); e != api.ErrPower {
				t.Error(n, e)
			}
		}
		b, e := d.Read()
		refused(t, len(b) == 0, e, api.ErrPower)
	}
	d.Renew()
	holds(t, d, nil, "renewed")
	if e := d.Cut(1); e != api.ErrArg {
		t.Error(e)
	}
	if e := d.Append([]byte{4, 5, 6}); e != api.OK {
		t.Error(e)
	}
	d.Renew()
	holds(t, d, []byte{4, 5, 6}, "renewed twice")
	if e := d.Append([]byte{7}); e != api.ErrFull {
		t.Error(e)
	}
}

// P10.1: the bytes of a disk are its own.
func TestDiskOwnMemory(t *testing.T) {
	d := newDisks(t, 20)[0]
	for range 3 {
		b := make([]byte, 2, 9)
		copy(b, []byte{1, 2})
		d.Append(b)
		copy(b[:9], "changed..")
		if got := content(d); slices.Contains(got, 'c') {
			t.Error(got)
		}
	}
	got := content(d)
	for i := range got[:cap(got)] {
		got[:cap(got)][i] = 5
	}
	holds(t, d, []byte{1, 2, 1, 2, 1, 2})
	d.Cut(1)
	d.Append([]byte{3})
	holds(t, d, []byte{1, 3})
}

// P10.1: what NewDisk did not return is no disk; a copy of one is none, and does nothing to it.
func TestUnmadeDisks(t *testing.T) {
	d := newDisks(t, 9)[0]
	d.Append([]byte{1, 2, 3})
	copied := *d
	d.Lose()
	lost := *d
	d.Renew()
	d.Append([]byte{4, 5})
	for i, x := range []*shop.Disk{nil, {}, new(shop.Disk), &copied, &lost} {
		for range 2 {
			for _, e := range []api.Errno{x.Append(nil), x.Append(make([]byte, 10)), x.Cut(0), x.Cut(-1)} {
				if e != api.ErrNil {
					t.Error(i, e)
				}
			}
			b, e := x.Read()
			refused(t, len(b) == 0, e, api.ErrNil, i)
			x.Renew()
			x.Lose()
		}
	}
	holds(t, d, []byte{4, 5})
}
