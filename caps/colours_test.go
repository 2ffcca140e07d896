package caps_test

import (
	"slices"
	"testing"

	"corsage/api"
	"corsage/caps"
)

// sameColouring checks that a colouring is the one that is wanted, or that there is none if that is nil.
func sameColouring(t *testing.T, got []int, e api.Errno, want []int, about ...any) {
	t.Helper()
	if want == nil {
		refused(t, len(got) == 0, e, api.ErrNone, about...)
	} else if !slices.Equal(got, want) || e != api.OK {
		t.Error(about, got, want, e)
	}
}

// first returns the first good one of some slices, or nil.
func first(all [][]int, good func(l []int) bool) []int {
	if i := slices.IndexFunc(all, good); i >= 0 {
		return all[i]
	}
	return nil
}

// P8.6: against a listing of all colourings for small n, and of those with good beginnings for all n.
func TestSchur(t *testing.T) {
	for colours := 1; colours <= 3; colours++ {
		for n := 1; n <= 40; n++ {
			l, e := caps.Schur(n, colours)
			sameColouring(t, l, e, firstColouring(n, colours, colouredWithoutSums), n, colours)
			if n <= 9 {
				sameColouring(t, l, e, first(words(n, colours), colouredWithoutSums), n, colours)
			}
		}
	}
	for _, x := range []struct {
		n, colours int
		want       []int
	}{{1, 1, []int{0}}, {2, 1, nil}, {4, 2, []int{0, 1, 1, 0}}, {5, 2, nil}, {4, 3, []int{0, 1, 0, 2}}, {13, 3, []int{0, 1, 1, 0, 2, 2, 0, 2, 2, 0, 1, 1, 0}}, {14, 3, nil}, {40, 3, nil}, {40, 1, nil}} {
		l, e := caps.Schur(x.n, x.colours)
		sameColouring(t, l, e, x.want, x)
	}
	own(t, func() []int {
		l, _ := caps.Schur(13, 3)
		return l
	})
}

// P8.6: likewise.
func TestWaerden(t *testing.T) {
	for k := 3; k <= 4; k++ {
		good := colouredWithoutSteps(k)
		for colours := 1; colours <= 3; colours++ {
			for n := 1; n <= 40 && (colours < 3 || n <= 27); n++ {
				l, e := caps.Waerden(n, colours, k)
				sameColouring(t, l, e, firstColouring(n, colours, good), n, colours, k)
				if n <= 9 {
					sameColouring(t, l, e, first(words(n, colours), good), n, colours, k)
				}
			}
		}
	}
	for _, x := range []struct {
		n, colours, k int
		want          []int
	}{
		{2, 1, 3, []int{0, 0}}, {3, 1, 3, nil}, {3, 1, 4, []int{0, 0, 0}}, {4, 1, 4, nil}, {8, 2, 3, []int{0, 0, 1, 1, 0, 0, 1, 1}}, {9, 2, 3, nil}, {40, 2, 3, nil}, {27, 3, 3, nil}, {35, 2, 4, nil}, {40, 2, 4, nil},
		{26, 3, 3, []int{0, 0, 1, 1, 0, 0, 1, 2, 1, 2, 2, 0, 2, 0, 0, 1, 0, 1, 1, 2, 0, 2, 2, 1, 2, 1}},
		{34, 2, 4, []int{0, 0, 1, 0, 0, 0, 1, 1, 1, 0, 1, 0, 0, 1, 0, 0, 0, 1, 1, 1, 0, 1, 0, 0, 1, 0, 0, 0, 1, 1, 1, 0, 1, 1}},
	} {
		l, e := caps.Waerden(x.n, x.colours, x.k)
		sameColouring(t, l, e, x.want, x)
	}
	own(t, func() []int {
		l, _ := caps.Waerden(26, 3, 3)
		return l
	})
}

// P8.12: up to where there are colourings.
func TestColouringBounds(t *testing.T) {
	for colours, last := range []int{0, 1, 4, 13} {
		for n := 1; n <= 40 && colours > 0; n++ {
			if _, e := caps.Schur(n, colours); (e == api.OK) != (n <= last) {
				t.Error(n, colours, e)
			}
		}
	}
	for _, x := range []struct{ colours, k, last, most int }{{1, 3, 2, 40}, {2, 3, 8, 40}, {3, 3, 26, 27}, {1, 4, 3, 40}, {2, 4, 34, 40}, {3, 4, 27, 27}} {
		for n := 1; n <= x.most; n++ {
			if _, e := caps.Waerden(n, x.colours, x.k); (e == api.OK) != (n <= x.last) {
				t.Error(x, n, e)
			}
		}
	}
}

// P8.6: what is no count, number of colours or length, also where there is no colouring.
func TestColouringsRefuse(t *testing.T) {
	for _, n := range append(strange(), 0, 41, 42) {
		for _, colours := range []int{-1, 0, 1, 2, 3, 4} {
			l, e := caps.Schur(n, colours)
			refused(t, len(l) == 0, e, api.ErrArg, n, colours)
			for k := 2; k <= 5; k++ {
				l, e := caps.Waerden(n, colours, k)
				refused(t, len(l) == 0, e, api.ErrArg, n, colours, k)
			}
		}
	}
	for _, n := range []int{1, 2, 5, 14, 27, 40} {
		for _, x := range append(strange(), 0, 4, 5) {
			l, e := caps.Schur(n, x)
			refused(t, len(l) == 0, e, api.ErrArg, n, x)
			l, e = caps.Waerden(n, x, 3)
			refused(t, len(l) == 0, e, api.ErrArg, n, x)
		}
		for _, k := range append(strange(), 0, 1, 2, 5, 6) {
			l, e := caps.Waerden(n, 1, k)
			refused(t, len(l) == 0, e, api.ErrArg, n, k)
		}
	}
	for n := 28; n <= 40; n++ {
		for k := 3; k <= 4; k++ {
			l, e := caps.Waerden(n, 3, k)
			refused(t, len(l) == 0, e, api.ErrArg, n, k)
		}
	}
}
