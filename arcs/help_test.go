package arcs_test

import (
	"math"
	"math/bits"
	"slices"
	"testing"

	"corsage/api"
	"corsage/arcs"
)

// world is the plane over p as the document defines it, found by trying all triples.
type world struct {
	p      int
	points [][3]int
	lines  []uint64 // the points on each line, as bits
}

func primes() []int { return []int{2, 3, 5, 7} }

func worlds() []*world {
	var all []*world
	for _, p := range primes() {
		all = append(all, newWorld(p))
	}
	return all
}

func newWorld(p int) *world {
	o := &world{p: p}
	for n := range p * p * p {
		x := [3]int{n / p / p, n / p % p, n % p}
		if first(x[:]...) == 1 {
			o.points = append(o.points, x)
		}
	}
	for _, l := range o.points {
		set := uint64(0)
		for n, x := range o.points {
			if (x[0]*l[0]+x[1]*l[1]+x[2]*l[2])%p == 0 {
				set |= 1 << n
			}
		}
		o.lines = append(o.lines, set)
	}
	return o
}

// first returns the first number that is not 0, or 0.
func first(numbers ...int) int {
	for _, n := range numbers {
		if n != 0 {
			return n
		}
	}
	return 0
}

// number returns the number of the point of which x is a multiple, or -1.
func (o *world) number(x [3]int) int {
	for n, y := range o.points {
		for k := 1; k < o.p; k++ {
			if (x[0]-k*y[0])%o.p == 0 && (x[1]-k*y[1])%o.p == 0 && (x[2]-k*y[2])%o.p == 0 {
				return n
			}
		}
	}
	return -1
}

// isArc reports whether no line has three points of the set.
func (o *world) isArc(set uint64) bool {
	for _, l := range o.lines {
		if bits.OnesCount64(l&set) > 2 {
			return false
		}
	}
	return true
}

// free returns the points that keep the set an arc.
func (o *world) free(set uint64) []int {
	var all []int
	for x := range o.points {
		if set>>x&1 == 0 && o.isArc(set|1<<x) {
			all = append(all, x)
		}
	}
	return all
}

// arcs calls visit with each arc, its points rising, until visit returns false: then none is made of that one by adding points.
func (o *world) arcs(visit func(set uint64) bool) {
	all := uint64(1)<<len(o.points) - 1
	secants := make([][]uint64, len(o.points))
	for a := range o.points {
		secants[a] = make([]uint64, len(o.points))
		for b := range o.points {
			for _, l := range o.lines {
				if a != b && l>>a&1 == 1 && l>>b&1 == 1 {
					secants[a][b] = l
				}
			}
		}
	}
	var grow func(set, open uint64)
	grow = func(set, open uint64) {
		if !visit(set) {
			return
		}
		for open != 0 {
			x := bits.TrailingZeros64(open)
			open &= open - 1
			left := open
			for rest := set; rest != 0; rest &= rest - 1 {
				left &^= secants[x][bits.TrailingZeros64(rest)]
			}
			grow(set|1<<x, left)
		}
	}
	grow(0, all)
}

// conics returns all curves with the sets of their points.
func (o *world) conics() ([][6]int, []uint64) {
	var curves [][6]int
	var sets []uint64
	p := o.p
	for n := range p * p * p * p * p * p {
		var c [6]int
		for i, rest := 5, n; i >= 0; i-- {
			c[i], rest = rest%p, rest/p
		}
		if first(c[:]...) != 1 {
			continue
		}
		set := uint64(0)
		for k, v := range o.points {
			x, y, z := v[0], v[1], v[2]
			if (c[0]*x*x+c[1]*y*y+c[2]*z*z+c[3]*x*y+c[4]*x*z+c[5]*y*z)%p == 0 {
				set |= 1 << k
			}
		}
		curves, sets = append(curves, c), append(sets, set)
	}
	return curves, sets
}

// det returns the determinant modulo p, from 0 on.
func (o *world) det(m arcs.Matrix) int {
	d := m[0][0]*m[1][1]*m[2][2] + m[0][1]*m[1][2]*m[2][0] + m[0][2]*m[1][0]*m[2][1]
	d -= m[0][2]*m[1][1]*m[2][0] + m[0][0]*m[1][2]*m[2][1] + m[0][1]*m[1][0]*m[2][2]
	return (d%o.p + o.p) % o.p
}

// matrix returns the numbers from 0 to p - 1 that are the digits of n.
func (o *world) matrix(n int) arcs.Matrix {
	var m arcs.Matrix
	for i := 8; i >= 0; i-- {
		m[i/3][i%3], n = n%o.p, n/o.p
	}
	return m
}

// isMap reports whether m, of numbers from 0 to p - 1, is a map.
func (o *world) isMap(m arcs.Matrix) bool {
	return first(slices.Concat(m[0][:], m[1][:], m[2][:])...) == 1 && o.det(m) != 0
}

// maps returns all maps for p 2 and 3, and count of them for the others.
func (o *world) maps(count int) []arcs.Matrix {
	var all []arcs.Matrix
	total := 1
	for range 9 {
		total *= o.p
	}
	if o.p <= 3 {
		for n := range total {
			if m := o.matrix(n); o.isMap(m) {
				all = append(all, m)
			}
		}
		return all
	}
	for d := (dice{seed: uint64(o.p)}); len(all) < count; {
		if m := o.matrix(d.below(total)); o.isMap(m) {
			all = append(all, m)
		}
	}
	return all
}

// apply returns where m takes a point.
func (o *world) apply(m arcs.Matrix, point int) int {
	var y [3]int
	for i := range y {
		for j, n := range o.points[point] {
			y[i] += m[i][j] * n
		}
	}
	return o.number(y)
}

// isFrame reports whether the points are four of which no three are on one line.
func (o *world) isFrame(f [4]int) bool {
	set := uint64(0)
	for _, x := range f {
		set |= 1 << x
	}
	return bits.OnesCount64(set) == 4 && o.isArc(set)
}

// frames returns all frames for p 2 and 3, and count of them for the others.
func (o *world) frames(count int) [][4]int {
	var all [][4]int
	n := len(o.points)
	at := func(k int) [4]int { return [4]int{k / n / n / n, k / n / n % n, k / n % n, k % n} }
	if o.p <= 3 {
		for k := range n * n * n * n {
			if o.isFrame(at(k)) {
				all = append(all, at(k))
			}
		}
		return all
	}
	for d := (dice{seed: uint64(o.p) + 100}); len(all) < count; {
		if f := at(d.below(n * n * n * n)); o.isFrame(f) {
			all = append(all, f)
		}
	}
	return all
}

// sets returns all sets for p 2 and 3, and count sets of every number of points for the others.
func (o *world) sets(count int) []uint64 {
	var all []uint64
	if o.p <= 3 {
		for set := range uint64(1) << len(o.points) {
			all = append(all, set)
		}
		return all
	}
	d := dice{seed: uint64(o.p) + 200}
	for n := range len(o.points) + 1 {
		for range count {
			set := uint64(0)
			for bits.OnesCount64(set) < n {
				set |= 1 << d.below(len(o.points))
			}
			all = append(all, set)
		}
	}
	return all
}

// some returns every arc for p 2 and 3, and every step-th one for the others.
func (o *world) some(step int) []uint64 {
	var all []uint64
	n := 0
	o.arcs(func(set uint64) bool {
		if n++; o.p <= 3 || n%step == 0 {
			all = append(all, set)
		}
		return true
	})
	return all
}

// dice gives the same numbers in every run.
type dice struct{ seed uint64 }

func (d *dice) below(n int) int {
	d.seed = d.seed*6364136223846793005 + 1442695040888963407
	return int(d.seed >> 33 % uint64(n))
}

// list returns the elements of a set, rising.
func list(set uint64) []int {
	var all []int
	for ; set != 0; set &= set - 1 {
		all = append(all, bits.TrailingZeros64(set))
	}
	return all
}

// bitsOf returns the set of the numbers.
func bitsOf(numbers []int) uint64 {
	set := uint64(0)
	for _, n := range numbers {
		set |= 1 << n
	}
	return set
}

func notPrimes() []int {
	return []int{-7, -2, -1, 0, 1, 4, 6, 8, 9, 11, 13, 49, 57, 1 << 32, 1<<32 + 7, math.MaxInt, math.MinInt}
}

// notNumbers are numbers of no points in the plane over p.
func notNumbers(p int) []int {
	n := p*p + p + 1
	return []int{-1, n, n + 1, -n, 64, 1 << 32, math.MaxInt, math.MinInt}
}

// notSets are slices that are no sets in the plane over p.
func notSets(p int) [][]int {
	all := [][]int{{1, 0}, {0, 0}, {0, 2, 1}, {0, 1, 1}, {2, 3, 3, 4, 5}, {4, 3, 2, 1, 0}, {p*p + p, 0}, make([]int, 100000)}
	for _, n := range notNumbers(p) {
		all = append(all, []int{n}, []int{0, n}, []int{n, 0}, []int{0, 1, 2, 3, n})
	}
	return all
}

// refused checks an error and that the other result is its zero value.
func refused(t *testing.T, zero bool, e, want api.Errno, about ...any) {
	t.Helper()
	if !zero || e != want {
		t.Error(about, zero, e, want)
	}
}

// unusual checks that a function of sets refuses what is no p and no set, before all else.
func unusual(t *testing.T, call func(p int, set []int) (zero bool, e api.Errno)) {
	t.Helper()
	for _, p := range notPrimes() {
		for _, set := range [][]int{nil, {0}, {0, 1, 2, 3, 4}, {-1}, {1, 0}} {
			zero, e := call(p, set)
			refused(t, zero, e, api.ErrArg, p, set)
		}
	}
	for _, p := range primes() {
		for _, set := range notSets(p) {
			kept := slices.Clone(set)
			zero, e := call(p, set)
			refused(t, zero, e, api.ErrArg, p, set)
			if !slices.Equal(set, kept) {
				t.Error(p, set, kept)
			}
		}
	}
}
