package schemes_test

import (
	"math"
	"slices"
	"testing"

	"corsage/api"
	"corsage/schemes"
)

// opposite returns the Numbers of the other graph of one with x.
func opposite(x schemes.Numbers) schemes.Numbers {
	return schemes.Numbers{N: x.N, K: x.N - x.K - 1, L: x.N - 2 - 2*x.K + x.M, M: x.N - 2*x.K + x.L}
}

// asked returns all Numbers with n nodes that may be asked about, in order.
func asked(n int) []schemes.Numbers {
	var all []schemes.Numbers
	for k := 1; k <= n-2; k++ {
		for l := 0; l <= k-1; l++ {
			for m := 0; m <= k; m++ {
				all = append(all, schemes.Numbers{N: n, K: k, L: l, M: m})
			}
		}
	}
	return all
}

// most returns all Numbers with up to 30 nodes, those to which reason 1 does not apply with up to 100, and some of the rest.
func most() []schemes.Numbers {
	var all []schemes.Numbers
	for n := 4; n <= 100; n++ {
		for i, x := range asked(n) {
			if n <= 30 || pathsFit(x) || i%101 == 0 {
				all = append(all, x)
			}
		}
	}
	return all
}

// notAsked are Numbers that may not be asked about.
func notAsked() []schemes.Numbers {
	all := []schemes.Numbers{{}, {N: 3, K: 1}, {N: 4}, {N: 4, K: 3, L: 2}, {N: 101, K: 2, L: 1}, {N: 101, K: 50, L: 24, M: 25}, {N: 104, K: 1}, {N: 2, K: 1}, {N: 1, K: 0}, {N: -10, K: -8, L: -7, M: -6}}
	good := []schemes.Numbers{{N: 4, K: 1, L: 0, M: 0}, {N: 10, K: 3, L: 0, M: 1}, {N: 16, K: 9, L: 4, M: 6}, {N: 100, K: 98, L: 96, M: 98}}
	for _, x := range good {
		for _, n := range append(strange(), 0, 1, 2, 3, x.K+1, x.K, 101, 102, 1000) {
			all = append(all, schemes.Numbers{N: n, K: x.K, L: x.L, M: x.M})
		}
		for _, k := range append(strange(), 0, x.L, x.N-1, x.N, 101) {
			all = append(all, schemes.Numbers{N: x.N, K: k, L: x.L, M: x.M})
		}
		for _, l := range append(strange(), x.K, x.K+1, x.N) {
			all = append(all, schemes.Numbers{N: x.N, K: x.K, L: l, M: x.M})
		}
		for _, m := range append(strange(), x.K+1, x.K+2, x.N) {
			all = append(all, schemes.Numbers{N: x.N, K: x.K, L: x.L, M: m})
		}
	}
	for _, n := range strange() {
		all = append(all, schemes.Numbers{N: n, K: n, L: n, M: n}, schemes.Numbers{N: 16, K: n, L: n, M: n})
	}
	return all
}

// pathsFit reports whether reason 1 does not hold: as many pairs of a neighbour and a node that is none are counted from both sides.
func pathsFit(x schemes.Numbers) bool { return x.K*(x.K-x.L-1) == (x.N-x.K-1)*x.M }

// roots returns the whole numbers that solve the equation of x, rising.
func roots(x schemes.Numbers) []int {
	var all []int
	for r := -200; r <= 200; r++ {
		if r*r-(x.L-x.M)*r-(x.K-x.M) == 0 {
			all = append(all, r)
		}
	}
	return all
}

// solve returns the spectrum of x by trying all numbers, and the error.
func solve(x schemes.Numbers) (schemes.Spectrum, api.Errno) {
	l := roots(x)
	if len(l) != 2 {
		return schemes.Spectrum{}, api.ErrState
	}
	for f := range x.N {
		if g := x.N - 1 - f; x.K+f*l[1]+g*l[0] == 0 {
			return schemes.Spectrum{R: l[1], S: l[0], F: f, G: g}, api.OK
		}
	}
	return schemes.Spectrum{}, api.ErrNone
}

// P6.2
func TestSolve(t *testing.T) {
	count := map[api.Errno]int{}
	for _, x := range most() {
		want, f := solve(x)
		if y, e := schemes.Solve(x); y != want || e != f {
			t.Error(x, y, want, e, f)
		}
		count[f]++
	}
	if count[api.OK] < 1000 || count[api.ErrState] < 1000 || count[api.ErrNone] < 1000 {
		t.Error(count)
	}
	for _, x := range []struct {
		x    schemes.Numbers
		want schemes.Spectrum
	}{
		{schemes.Numbers{N: 16, K: 6, L: 2, M: 2}, schemes.Spectrum{R: 2, S: -2, F: 6, G: 9}},
		{schemes.Numbers{N: 10, K: 3, L: 0, M: 1}, schemes.Spectrum{R: 1, S: -2, F: 5, G: 4}},
		{schemes.Numbers{N: 4, K: 1, L: 0, M: 0}, schemes.Spectrum{R: 1, S: -1, F: 1, G: 2}},
		{schemes.Numbers{N: 4, K: 2, L: 0, M: 2}, schemes.Spectrum{R: 0, S: -2, F: 2, G: 1}},
		// also where the first reason holds
		{schemes.Numbers{N: 4, K: 1, L: 0, M: 1}, schemes.Spectrum{R: 0, S: -1, F: 2, G: 1}},
		{schemes.Numbers{N: 100, K: 22, L: 0, M: 6}, schemes.Spectrum{R: 2, S: -8, F: 77, G: 22}},
		{schemes.Numbers{N: 28, K: 9, L: 0, M: 4}, schemes.Spectrum{R: 1, S: -5, F: 21, G: 6}},
	} {
		if y, e := schemes.Solve(x.x); y != x.want || e != api.OK {
			t.Error(x, y, e)
		}
	}
	for _, x := range []struct {
		x    schemes.Numbers
		want api.Errno
	}{{schemes.Numbers{N: 5, K: 2, L: 0, M: 1}, api.ErrState}, {schemes.Numbers{N: 4, K: 2, L: 1, M: 1}, api.ErrNone}, {schemes.Numbers{N: 5, K: 1, L: 0, M: 0}, api.ErrNone}, {schemes.Numbers{N: 15, K: 7, L: 2, M: 4}, api.ErrNone}} {
		y, e := schemes.Solve(x.x)
		refused(t, y == schemes.Spectrum{}, e, x.want, x, y)
	}
	for _, x := range notAsked() {
		y, e := schemes.Solve(x)
		refused(t, y == schemes.Spectrum{}, e, api.ErrArg, x, y)
	}
}

// P6.9
func TestSpectrum(t *testing.T) {
	count := 0
	for _, x := range most() {
		y, e := schemes.Solve(x)
		if e != api.OK || !pathsFit(x) {
			continue
		}
		count++
		if x.K*x.K+y.F*y.R*y.R+y.G*y.S*y.S != x.N*x.K || y.F+y.G != x.N-1 || x.K+y.F*y.R+y.G*y.S != 0 || y.R <= y.S {
			t.Error(x, y)
		}
	}
	if count < 700 {
		t.Error(count)
	}
}

// P6.2, P6.9: in a graph K^2 + F R^2 + G S^2 counts the pairs of neighbours twice, and with third powers the triangles six times.
func TestSpectrumOfGraphs(t *testing.T) {
	for _, w := range regular() {
		x, e := schemes.Read(w.write())
		y, f := schemes.Solve(x)
		if e != api.OK || f == api.ErrState {
			continue
		}
		ways := [5]int{}
		for i := range w {
			for j := range w {
				if w[i][j] {
					ways[2]++
					ways[3] += w.shared(i, j)
				}
				ways[4] += w.shared(i, j) * w.shared(i, j)
			}
		}
		for power := 2; power <= 4; power++ {
			p := float64(power)
			if sum := math.Pow(float64(x.K), p) + float64(y.F)*math.Pow(float64(y.R), p) + float64(y.G)*math.Pow(float64(y.S), p); sum != float64(ways[power]) || f != api.OK {
				t.Error(x, y, power, sum, ways[power], f)
			}
		}
	}
}

// isSum reports whether n is a sum of two squares.
func isSum(n int) bool {
	for a := range 11 {
		for b := range 11 {
			if a*a+b*b == n {
				return true
			}
		}
	}
	return false
}

// reasons returns all reasons against x, rising.
func reasons(x schemes.Numbers) []int {
	l := roots(x)
	y, e := solve(x)
	whole := len(l) == 2
	together := x.M != 0 && x.M != x.K
	far := func(a, b int) bool { return (a+1)*(x.K+a+2*a*b) > (x.K+a)*(b+1)*(b+1) }
	few := func(f int) bool { return float64(x.N) > float64(f*(f+3))/2 }
	var all []int
	for i, holds := range []bool{
		!pathsFit(x),
		x.M == 0 && x.N%(x.K+1) != 0 || x.M == x.K && x.N%(x.N-x.K) != 0,
		together && !whole && !(2*x.K+(x.N-1)*(x.L-x.M) == 0 && isSum(x.N)),
		together && whole && (e != api.OK || y.F < 1 || y.G < 1),
		together && whole && (far(l[1], l[0]) || far(l[0], l[1])),
		together && whole && e == api.OK && (few(y.F) || few(y.G)),
	} {
		if holds {
			all = append(all, i+1)
		}
	}
	return all
}

// P6.2
func TestReason(t *testing.T) {
	count := [7]int{}
	for _, x := range most() {
		want := 0
		if l := reasons(x); len(l) > 0 {
			want = l[0]
		}
		count[want]++
		r, e := schemes.Reason(x)
		if want == 0 {
			refused(t, r == 0, e, api.ErrNone, x, r)
		} else if r != want || e != api.OK {
			t.Error(x, r, want, e)
		}
	}
	for r, n := range count {
		if n < 5 {
			t.Error(r, n)
		}
	}
}

// P6.2
func TestReasonOfSome(t *testing.T) {
	for _, x := range []struct {
		n, k, l, m int
		want       int
	}{
		{10, 4, 1, 2, 1}, {4, 1, 0, 1, 1}, {6, 2, 0, 0, 1}, {100, 98, 97, 98, 1},
		{5, 1, 0, 0, 2}, {10, 2, 1, 0, 2}, {4, 2, 1, 0, 2}, {5, 3, 1, 3, 2}, {99, 97, 95, 97, 2},
		{7, 3, 0, 2, 3}, {9, 4, 2, 1, 3},
		// both values may occur as often, but 21, 33 and 77 are no sums of two squares
		{21, 10, 4, 5, 3}, {33, 16, 7, 8, 3}, {77, 38, 18, 19, 3},
		{15, 7, 2, 4, 4}, {15, 7, 3, 3, 4}, {21, 12, 7, 6, 4},
		{28, 9, 0, 4, 5}, {28, 18, 12, 10, 5}, {64, 21, 0, 10, 5}, {25, 18, 13, 12, 5}, {21, 16, 12, 12, 5},
		{50, 21, 4, 12, 6}, {50, 28, 18, 12, 6}, {81, 40, 13, 26, 6}, {64, 30, 18, 10, 6},
		{16, 9, 4, 6, 0}, {10, 3, 0, 1, 0}, {50, 7, 0, 1, 0}, {64, 42, 26, 30, 0}, {77, 16, 0, 4, 0}, {100, 22, 0, 6, 0},
		// both values may occur as often, and N is a sum of two squares
		{5, 2, 0, 1, 0}, {13, 6, 2, 3, 0}, {45, 22, 10, 11, 0}, {97, 48, 23, 24, 0},
		// the bounds of the fifth and sixth reason are met
		{27, 10, 1, 5, 0}, {27, 16, 10, 8, 0},
		{4, 1, 0, 0, 0}, {4, 2, 0, 2, 0}, {100, 1, 0, 0, 0}, {100, 98, 96, 98, 0},
	} {
		e := api.OK
		if x.want == 0 {
			e = api.ErrNone
		}
		if r, f := schemes.Reason(schemes.Numbers{N: x.n, K: x.k, L: x.l, M: x.m}); r != x.want || f != e {
			t.Error(x, r, f)
		}
	}
	for _, x := range notAsked() {
		r, e := schemes.Reason(x)
		refused(t, r == 0, e, api.ErrArg, x, r)
	}
}

// P6.7: there is no reason against the Numbers of a graph if and only if there is none against those of the other one: all Numbers that may be asked about.
func TestReasonOfOther(t *testing.T) {
	for n := 4; n <= 100; n++ {
		for _, x := range asked(n) {
			_, e := schemes.Reason(x)
			_, f := schemes.Reason(opposite(x))
			if (e == api.ErrNone) != (f == api.ErrNone) || e == api.ErrArg {
				t.Error(x, opposite(x), e, f)
			}
		}
	}
}

// P6.6
func TestList(t *testing.T) {
	for n := 4; n <= 30; n++ {
		var want []schemes.Numbers
		for _, x := range asked(n) {
			if len(reasons(x)) == 0 {
				want = append(want, x)
			}
		}
		l, e := schemes.List(n)
		if !slices.Equal(l, want) || e != api.OK {
			t.Error(n, l, want, e)
		}
		clear(l)
		if again, _ := schemes.List(n); !slices.Equal(again, want) {
			t.Error(n, again)
		}
	}
	for _, n := range append(strange(), 0, 1, 2, 3, 31, 32, 100) {
		l, e := schemes.List(n)
		refused(t, len(l) == 0, e, api.ErrArg, n)
	}
}

// P6.6: the Numbers known to have no reason: those of parts, those of their other graphs, and a few more.
func TestListIsKnown(t *testing.T) {
	known := map[int][]schemes.Numbers{}
	for _, x := range []schemes.Numbers{
		{N: 5, K: 2, L: 0, M: 1}, {N: 9, K: 4, L: 1, M: 2}, {N: 13, K: 6, L: 2, M: 3}, {N: 17, K: 8, L: 3, M: 4}, {N: 25, K: 12, L: 5, M: 6}, {N: 29, K: 14, L: 6, M: 7},
		{N: 10, K: 3, L: 0, M: 1}, {N: 10, K: 6, L: 3, M: 4}, {N: 15, K: 6, L: 1, M: 3}, {N: 15, K: 8, L: 4, M: 4},
		{N: 16, K: 5, L: 0, M: 2}, {N: 16, K: 6, L: 2, M: 2}, {N: 16, K: 9, L: 4, M: 6}, {N: 16, K: 10, L: 6, M: 6},
		{N: 21, K: 10, L: 3, M: 6}, {N: 21, K: 10, L: 5, M: 4}, {N: 25, K: 8, L: 3, M: 2}, {N: 25, K: 16, L: 9, M: 12},
		{N: 26, K: 10, L: 3, M: 4}, {N: 26, K: 15, L: 8, M: 9}, {N: 27, K: 10, L: 1, M: 5}, {N: 27, K: 16, L: 10, M: 8}, {N: 28, K: 12, L: 6, M: 4}, {N: 28, K: 15, L: 6, M: 10},
	} {
		known[x.N] = append(known[x.N], x)
	}
	for n := 4; n <= 30; n++ {
		for b := 2; b < n; b++ {
			if n%b == 0 {
				known[n] = append(known[n], schemes.Numbers{N: n, K: b - 1, L: b - 2, M: 0}, schemes.Numbers{N: n, K: n - b, L: n - 2*b, M: n - b})
			}
		}
		slices.SortFunc(known[n], func(x, y schemes.Numbers) int {
			return slices.Compare([]int{x.K, x.L, x.M}, []int{y.K, y.L, y.M})
		})
		if l, e := schemes.List(n); !slices.Equal(l, known[n]) || e != api.OK {
			t.Error(n, l, known[n], e)
		}
	}
}

// P6.12
func TestListHasOther(t *testing.T) {
	for n := 4; n <= 30; n++ {
		l, e := schemes.List(n)
		if e != api.OK {
			t.Error(n, e)
		}
		for _, x := range l {
			if !slices.Contains(l, opposite(x)) {
				t.Error(x, l)
			}
		}
	}
}
