package mirror

import "corsage/api"

// maxMeasured is the number of elements up to which a group has its order measured.
const maxMeasured = 48

// poly is a polynomial: its coefficients, that of q^0 first, the last one not 0.
type poly []int

// trim leaves out the coefficients 0 at the end.
func (f poly) trim() poly {
	for len(f) > 0 && f[len(f)-1] == 0 {
		f = f[:len(f)-1]
	}
	return f
}

// plus returns the sum of f and g.
func (f poly) plus(g poly) poly {
	sum := make(poly, max(len(f), len(g)))
	copy(sum, f)
	for k, c := range g {
		sum[k] += c
	}
	return sum.trim()
}

// times returns the product of f and g.
func (f poly) times(g poly) poly {
	if len(f) == 0 || len(g) == 0 {
		return nil
	}
	product := make(poly, len(f)+len(g)-1)
	for i, c := range f {
		for j, d := range g {
			product[i+j] += c * d
		}
	}
	return product
}

// measure is a table with the polynomials found so far, by their two elements.
type measure struct {
	*table
	rs, ps map[[2]int]poly
}

// r returns R(u, w).
func (m *measure) r(u, w int) poly {
	if u == w {
		return poly{1}
	}
	if m.length(u) >= m.length(w) {
		return nil
	}
	f, found := m.rs[[2]int{u, w}]
	if found {
		return f
	}
	s := m.last(w)
	us, ws := m.right[u][s], m.right[w][s]
	f = m.r(us, ws)
	if !m.falls(u, s) {
		more := m.r(u, ws).times(poly{-1, 1})
		f = more.plus(f.times(poly{0, 1}))
	}
	m.rs[[2]int{u, w}] = f
	return f
}

// p returns P(u, w), or none if u is not below w.
func (m *measure) p(u, w int) poly {
	if u == w {
		return poly{1}
	}
	if !m.below(u, w) {
		return nil
	}
	f, found := m.ps[[2]int{u, w}]
	if found {
		return f
	}
	// Without x = u, which gives P(u, w), the sum is q^n P(u, w)(1/q) - P(u, w), with n the difference of the lengths.
	// P has only powers below n / 2, and the other part only ones above: so P is the lower half of the sum with its sign turned.
	var sum poly
	for x := u + 1; x <= w; x++ {
		if m.below(u, x) && m.below(x, w) {
			sum = sum.plus(m.r(u, x).times(m.p(x, w)))
		}
	}
	f = make(poly, (m.length(w)-m.length(u)+1)/2)
	for k := range f {
		f[k] = -sum[k]
	}
	f = f.trim()
	m.ps[[2]int{u, w}] = f
	return f
}

// measured returns the polynomial of u's and w's elements.
func measured(g Group, u, w []int, polynomial func(m *measure, u, w int) poly) ([]int, api.Errno) {
	t, x, e := open(g, u, w)
	if e != api.OK {
		return nil, e
	}
	if len(t.words) > maxMeasured {
		return nil, api.ErrSize
	}
	m := &measure{table: t, rs: map[[2]int]poly{}, ps: map[[2]int]poly{}}
	return polynomial(m, x[0], x[1]), api.OK
}

// R returns R(u, w).
func R(g Group, u, w []int) ([]int, api.Errno) { return measured(g, u, w, (*measure).r) }

// P returns P(u, w), or the empty slice if u's element is not below w's.
func P(g Group, u, w []int) ([]int, api.Errno) { return measured(g, u, w, (*measure).p) }
