package schur

import "corsage/api"

// tally is how often each number occurs: element k is about the number k + 1.
type tally [api.MaxBoxes]int

// tallyOf returns a content as a tally.
func tallyOf(m []int) tally {
	var t tally
	for k, n := range m {
		t[k] = n
	}
	return t
}

// fill calls visit with the rows of each skew filling of outer without inner in which the number k + 1 occurs at most left[k] times, rising.
// The rows are those of the search: visit neither keeps nor changes them.
func fill(outer, inner []int, left tally, visit func(rows [][]int)) {
	rows := make([][]int, len(outer))
	for i := range rows {
		rows[i] = make([]int, part(inner, i), outer[i])
	}
	var next func(i int)
	next = func(i int) {
		if i == len(outer) {
			visit(rows)
			return
		}
		j := len(rows[i])
		if j == outer[i] {
			next(i + 1)
			return
		}
		for n := least(rows, i, j); n <= len(left); n++ {
			if left[n-1] == 0 {
				continue
			}
			left[n-1]--
			rows[i] = append(rows[i], n)
			next(i)
			rows[i] = rows[i][:j]
			left[n-1]++
		}
	}
	next(0)
}

// fillings calls visit with the rows of each filling of l with the content m, rising.
func fillings(l, m []int, visit func(rows [][]int)) api.Errno {
	if !isShape(l) || !isContent(m) {
		return api.ErrArg
	}
	if boxes(l) == boxes(m) {
		fill(l, nil, tallyOf(m), visit)
	}
	return api.OK
}

// Fillings returns all fillings of l with the content m, rising.
func Fillings(l, m []int) ([][][]int, api.Errno) {
	var all [][][]int
	e := fillings(l, m, func(rows [][]int) { all = append(all, clone(rows)) })
	return all, e
}

// Kostka returns how many fillings of l with the content m there are.
func Kostka(l, m []int) (int, api.Errno) {
	count := 0
	e := fillings(l, m, func([][]int) { count++ })
	return count, e
}

// Standard returns how many fillings of l have each number from 1 on once.
func Standard(l []int) (int, api.Errno) {
	if !isShape(l) {
		return 0, api.ErrArg
	}
	once := make([]int, boxes(l))
	for k := range once {
		once[k] = 1
	}
	return Kostka(l, once)
}

// The values at which Schur is defined.
const (
	maxValues = 4
	maxValue  = 3
)

// Schur returns the sum, over all fillings of l with numbers up to len(x), of the product of x[k-1] over all their numbers k.
func Schur(l, x []int) (int, api.Errno) {
	if !isShape(l) || len(x) < 1 || len(x) > maxValues {
		return 0, api.ErrArg
	}
	var left tally
	for k, v := range x {
		if v < -maxValue || v > maxValue {
			return 0, api.ErrArg
		}
		left[k] = api.MaxBoxes
	}
	sum := 0
	fill(l, nil, left, func(rows [][]int) {
		product := 1
		for n := range reading(rows) {
			product *= x[n-1]
		}
		sum += product
	})
	return sum, api.OK
}
