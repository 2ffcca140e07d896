package signs_test

import (
	"math"
	"slices"
	"testing"

	"corsage/api"
)

// numbers are the entries of a matrix, 1 and -1, as the document speaks of them.
type numbers [][]int

// read returns the entries of the matrix h.
func read(h []int) numbers {
	m := make(numbers, len(h))
	for i, row := range h {
		for j := range h {
			sign := 1
			if row&(1<<j) != 0 {
				sign = -1
			}
			m[i] = append(m[i], sign)
		}
	}
	return m
}

// write returns the matrix with these entries.
func (m numbers) write() []int {
	h := make([]int, len(m))
	for i, row := range m {
		for j, sign := range row {
			if sign == -1 {
				h[i] |= 1 << j
			}
		}
	}
	return h
}

// flip returns m with rows and columns exchanged.
func (m numbers) flip() numbers {
	f := make(numbers, len(m))
	for i := range m {
		for j := range m {
			f[i] = append(f[i], m[j][i])
		}
	}
	return f
}

// dot returns the sum of the products of the numbers of a and b.
func dot(a, b []int) int {
	sum := 0
	for i := range a {
		sum += a[i] * b[i]
	}
	return sum
}

// times returns the product of two matrices of numbers.
func (m numbers) times(o numbers) numbers {
	p := make(numbers, len(m))
	for i := range m {
		for _, column := range o.flip() {
			p[i] = append(p[i], dot(m[i], column))
		}
	}
	return p
}

// agree returns at how many places a and b have the same sign.
func agree(a, b []int) int {
	n := 0
	for i := range a {
		if a[i] == b[i] {
			n++
		}
	}
	return n
}

// isBalanced reports whether any two rows agree in just half of the columns.
func (m numbers) isBalanced() bool {
	for i, a := range m {
		for k, b := range m {
			if i != k && 2*agree(a, b) != len(m) {
				return false
			}
		}
	}
	return true
}

// turnRow changes all signs of a row.
func (m numbers) turnRow(i int) {
	for j := range m {
		m[i][j] = -m[i][j]
	}
}

// turnColumn changes all signs of a column.
func (m numbers) turnColumn(j int) {
	for i := range m {
		m[i][j] = -m[i][j]
	}
}

// sum returns the sum of all entries.
func (m numbers) sum() int {
	n := 0
	for _, row := range m {
		for _, x := range row {
			n += x
		}
	}
	return n
}

// det returns the determinant, found from those of the first rows in every set of columns.
func (m numbers) det() int {
	dets := map[int]int{0: 1}
	for _, row := range m {
		next := map[int]int{}
		for set, d := range dets {
			above := 0
			for j := len(m) - 1; j >= 0; j-- {
				if set&(1<<j) != 0 {
					above++
					continue
				}
				if above%2 == 0 {
					next[set|1<<j] += d * row[j]
				} else {
					next[set|1<<j] -= d * row[j]
				}
			}
		}
		dets = next
	}
	return dets[1<<len(m)-1]
}

// dice gives the same numbers in every run.
type dice struct{ seed uint64 }

func (d *dice) below(n int) int {
	d.seed = d.seed*6364136223846793005 + 1442695040888963407
	return int(d.seed >> 33 % uint64(n))
}

// matrix returns a matrix with n rows.
func (d *dice) matrix(n int) []int {
	h := make([]int, n)
	for i := range h {
		h[i] = d.below(1 << n)
	}
	return h
}

// mixed returns h with rows and columns turned and exchanged.
func (d *dice) mixed(h []int) []int {
	m := read(h)
	for i := range m {
		if d.below(2) == 1 {
			m.turnRow(i)
		}
		if d.below(2) == 1 {
			m.turnColumn(i)
		}
	}
	for range 2 {
		for i := range m {
			k := d.below(i + 1)
			m[i], m[k] = m[k], m[i]
		}
		m = m.flip()
	}
	return m.write()
}

// every returns all matrices with n rows.
func every(n int) [][]int {
	var all [][]int
	for x := range 1 << (n * n) {
		h := make([]int, n)
		for i := range h {
			h[i] = x >> (i * n) & (1<<n - 1)
		}
		all = append(all, h)
	}
	return all
}

// sylvester returns the matrix that is made of one with half as many rows, four times, the last time with all signs changed.
func sylvester(n int) []int {
	if n == 1 {
		return []int{0}
	}
	half := sylvester(n / 2)
	var h []int
	for _, row := range half {
		h = append(h, row|row<<(n/2))
	}
	for _, row := range half {
		h = append(h, row|(row^(1<<(n/2)-1))<<(n/2))
	}
	return h
}

// paley returns the matrix of the squares modulo p, which are given.
func paley(p int, squares ...int) []int {
	m := numbers{slices.Repeat([]int{1}, p+1)}
	for i := range p {
		row := []int{-1}
		for j := range p {
			sign := -1
			if i == j || slices.Contains(squares, (j-i+p)%p) {
				sign = 1
			}
			row = append(row, sign)
		}
		m = append(m, row)
	}
	return m.write()
}

// halves returns a matrix of 16 rows that has one of 8 rows twice, and below it another one and that one with all signs changed.
func halves() []int {
	var h []int
	for _, row := range sylvester(8) {
		h = append(h, row|row<<8)
	}
	for _, row := range paley(7, 1, 2, 4) {
		h = append(h, row|(row^255)<<8)
	}
	return h
}

// balancedOnes returns balanced matrices with 1, 2, 4, 8, 12 and 16 rows: those above, and some that come from them by turning and exchanging.
func balancedOnes() [][]int {
	all := [][]int{sylvester(1), sylvester(2), sylvester(4), sylvester(8), sylvester(16), paley(3, 1), paley(7, 1, 2, 4), paley(11, 1, 3, 4, 5, 9), halves()}
	d := dice{seed: 4}
	for _, h := range slices.Clone(all) {
		for range 6 {
			all = append(all, d.mixed(h))
		}
	}
	return all
}

// samples returns all matrices with up to 3 rows, every 7th one with 4, some of each number of rows from most down to 5, balanced ones, and balanced ones with one sign changed.
func samples(most int) [][]int {
	all := slices.Concat(every(1), every(2), every(3))
	for i, h := range every(4) {
		if i%7 == 0 {
			all = append(all, h)
		}
	}
	d := dice{seed: 2}
	for n := 5; n <= most; n++ {
		all = append(all, make([]int, n), slices.Repeat([]int{1<<n - 1}, n))
		for range 10 {
			all = append(all, d.matrix(n))
		}
	}
	for _, h := range balancedOnes() {
		if n := len(h); n <= most {
			near := slices.Clone(h)
			near[d.below(n)] ^= 1 << d.below(n)
			all = append(all, h, near)
		}
	}
	return all
}

// notMatrices are slices that are no matrices.
func notMatrices() [][]int {
	all := [][]int{nil, {}, make([]int, 17), make([]int, 100000), {2}, {3}, {1 << 1, 4}, make([]int, 1<<16)}
	for n := 1; n <= 16; n++ {
		for _, row := range []int{-1, 1 << n, 1<<n + 1, -1 << n, 1 << 32, math.MaxInt, math.MinInt} {
			first, last := make([]int, n), make([]int, n)
			first[0], last[n-1] = row, row
			all = append(all, first, last)
		}
	}
	return all
}

// refused checks an error and that the other result is its zero value.
func refused(t *testing.T, zero bool, e, want api.Errno, about ...any) {
	t.Helper()
	if !zero || e != want {
		t.Error(about, zero, e, want)
	}
}

// refusesOthers checks that a function of a matrix refuses what is none, and valid ones with too few or too many rows for it, before all else.
func refusesOthers(t *testing.T, least, most int, call func(h []int) (zero bool, e api.Errno)) {
	t.Helper()
	others := notMatrices()
	d := dice{seed: 3}
	for n := 1; n <= 16; n++ {
		if n < least || n > most {
			others = append(others, make([]int, n), d.matrix(n))
		}
	}
	for _, h := range balancedOnes() {
		if len(h) < least || len(h) > most {
			others = append(others, h)
		}
	}
	for _, h := range others {
		kept := slices.Clone(h)
		zero, e := call(h)
		refused(t, zero, e, api.ErrArg, len(h), h[:min(len(h), 20)])
		if !slices.Equal(h, kept) {
			t.Error(len(h), "changed")
		}
	}
}

// ownMemory checks that a function of a matrix leaves its argument as it is, also behind its end, and that its result shares no memory with it.
func ownMemory(t *testing.T, h []int, call func(h []int) []int) {
	t.Helper()
	const room = 20
	roomy := append(make([]int, 0, len(h)+room), h...)
	got := call(roomy)
	kept := slices.Clone(got)
	for i := range got[:cap(got)] {
		got[:cap(got)][i] = -5
	}
	if !slices.Equal(roomy, h) || !slices.Equal(roomy[:cap(roomy)][len(h):len(h)+room], make([]int, room)) {
		t.Error(h, roomy)
	}
	if again := call(roomy); !slices.Equal(again, kept) {
		t.Error(h, again, kept)
	}
}

// sets returns the sequences of m signs: those in which the signs at i and m - i are the same.
func sets(m int) []int {
	switch m {
	case 1:
		return []int{0, 1}
	case 3:
		return []int{0, 1, 6, 7}
	default:
		return []int{0, 1, 12, 13, 18, 19, 30, 31}
	}
}

// fours returns all four sequences of m signs, rising.
func fours(m int) [][4]int {
	var all [][4]int
	for _, a := range sets(m) {
		for _, b := range sets(m) {
			for _, c := range sets(m) {
				for _, d := range sets(m) {
					all = append(all, [4]int{a, b, c, d})
				}
			}
		}
	}
	return all
}

// circulant returns the m by m matrix of a sequence.
func circulant(m, s int) numbers {
	c := make(numbers, m)
	for i := range c {
		for j := range m {
			sign := 1
			if s&(1<<((j-i+m)%m)) != 0 {
				sign = -1
			}
			c[i] = append(c[i], sign)
		}
	}
	return c
}

// areGood reports whether the squares of the circulants sum to 4 m times the unit matrix.
func areGood(m int, s [4]int) bool {
	sum := make(numbers, m)
	for i := range sum {
		sum[i] = make([]int, m)
	}
	for _, x := range s {
		c := circulant(m, x)
		for i, row := range c.times(c) {
			for j, n := range row {
				sum[i][j] += n
			}
		}
	}
	for i, row := range sum {
		for j, n := range row {
			if i == j && n != 4*m || i != j && n != 0 {
				return false
			}
		}
	}
	return true
}

// array returns the array of four sequences in the blocks that the document shows.
func array(m int, s [4]int) numbers {
	blocks := [][]string{{"A", "B", "C", "D"}, {"-B", "A", "-D", "C"}, {"-C", "D", "A", "-B"}, {"-D", "-C", "B", "A"}}
	h := make(numbers, 4*m)
	for r, names := range blocks {
		for _, name := range names {
			sign := 1
			if name[0] == '-' {
				sign, name = -1, name[1:]
			}
			for i, row := range circulant(m, s[name[0]-'A']) {
				for _, x := range row {
					h[r*m+i] = append(h[r*m+i], sign*x)
				}
			}
		}
	}
	return h
}

// What the other tests rely on is right.
func TestHelp(t *testing.T) {
	for _, h := range balancedOnes() {
		if !read(h).isBalanced() || !slices.Equal(read(h).write(), h) || !slices.Equal(read(h).flip().flip().write(), h) {
			t.Error(h)
		}
	}
	if d := (numbers{{1, 2, 3}, {4, 5, 6}, {7, 8, 10}}).det(); d != -3 {
		t.Error(d)
	}
}
