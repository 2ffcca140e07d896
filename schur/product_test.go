package schur_test

import (
	"reflect"
	"slices"
	"testing"

	"corsage/api"
	"corsage/schur"
)

func product(t *testing.T, a, b []int) []schur.Term {
	t.Helper()
	terms, e := schur.Product(a, b)
	if e != api.OK {
		t.Fatal(a, b, e)
	}
	return terms
}

func rule(t *testing.T, a, b, c []int) int {
	t.Helper()
	n, e := schur.Rule(a, b, c)
	if e != api.OK {
		t.Fatal(a, b, c, e)
	}
	return n
}

// pairs calls visit with all pairs of shapes that have at most n boxes together.
func pairs(n int, visit func(a, b []int)) {
	for _, a := range shapesUpTo(n) {
		for _, b := range shapesUpTo(n - sum(a)) {
			visit(a, b)
		}
	}
}

// P1.3
func TestProductExamples(t *testing.T) {
	for _, x := range []struct {
		a, b []int
		want []schur.Term
	}{
		{[]int{1}, []int{2}, []schur.Term{{[]int{2, 1}, 1}, {[]int{3}, 1}}},
		{[]int{2, 1}, []int{2, 1}, []schur.Term{{[]int{2, 2, 1, 1}, 1}, {[]int{2, 2, 2}, 1}, {[]int{3, 1, 1, 1}, 1}, {[]int{3, 2, 1}, 2},
			{[]int{3, 3}, 1}, {[]int{4, 1, 1}, 1}, {[]int{4, 2}, 1}}},
		{nil, []int{3, 1}, []schur.Term{{[]int{3, 1}, 1}}},
		{[]int{3, 1}, []int{}, []schur.Term{{[]int{3, 1}, 1}}},
		{[]int{4}, []int{1, 1, 1, 1}, []schur.Term{{[]int{4, 1, 1, 1, 1}, 1}, {[]int{5, 1, 1, 1}, 1}}},
	} {
		if got := product(t, x.a, x.b); !reflect.DeepEqual(got, x.want) {
			t.Error(x, got)
		}
	}
	if got := product(t, nil, nil); len(got) != 1 || len(got[0].Shape) != 0 || got[0].Count != 1 {
		t.Error(got)
	}
}

// P1.3: errors, in their order.
func TestProductErrors(t *testing.T) {
	for _, x := range [][2][]int{{{4, 4}, {1}}, {{1}, {8}}, {{5}, {4}}, {ones(8), ones(8)}} {
		if l, e := schur.Product(x[0], x[1]); len(l) != 0 || e != api.ErrSize {
			t.Error(x, l, e)
		}
	}
	for _, l := range notShapes() {
		for _, x := range [][2][]int{{l, nil}, {nil, l}, {l, {8}}, {{8}, l}, {l, l}} {
			if p, e := schur.Product(x[0], x[1]); len(p) != 0 || e != api.ErrArg {
				t.Error(x, p, e)
			}
		}
		for _, x := range [][3][]int{{l, nil, nil}, {nil, l, nil}, {nil, nil, l}, {{8}, {8}, l}} {
			if n, e := schur.Rule(x[0], x[1], x[2]); n != 0 || e != api.ErrArg {
				t.Error(x, n, e)
			}
		}
	}
}

// P1.3: Rule where the boxes differ, or are more than a shape has.
func TestRuleOfOtherBoxes(t *testing.T) {
	for _, x := range [][3][]int{{{1}, {1}, {1}}, {{1}, {1}, {3}}, {{8}, {8}, {8}}, {{8}, {1}, {8}}, {nil, nil, {1}}, {{1}, nil, nil}, {{3}, {1}, {2, 2}}} {
		if n := rule(t, x[0], x[1], x[2]); n != 0 {
			t.Error(x, n)
		}
	}
	if n := rule(t, nil, nil, nil); n != 1 {
		t.Error(n)
	}
}

// wordKeepsOrder is the definition of which skew fillings a product counts, over the word that is read.
func wordKeepsOrder(rows [][]int) bool {
	var word []int
	for _, row := range rows {
		for j := len(row) - 1; j >= 0; j-- {
			word = append(word, row[j])
		}
	}
	for end := range len(word) + 1 {
		m := contentOf([][]int{word[:end]})
		for k := 1; k < len(m); k++ {
			if m[k] > m[k-1] {
				return false
			}
		}
	}
	return true
}

// P1.3, by its definition: also that the product rises and has no Count of 0.
func TestProductIsWhatItSays(t *testing.T) {
	pairs(6, func(a, b []int) {
		var want []schur.Term
		for _, c := range shapesOf(sum(a) + sum(b)) {
			count := 0
			if holds(c, a) {
				for _, rows := range skewFillings(c, a, b) {
					if wordKeepsOrder(rows) {
						count++
					}
				}
			}
			if got := rule(t, a, b, c); got != count {
				t.Error(a, b, c, got, count)
			}
			if count > 0 {
				want = append(want, schur.Term{Shape: c, Count: count})
			}
		}
		same := func(x, y schur.Term) bool { return slices.Equal(x.Shape, y.Shape) && x.Count == y.Count }
		if got := product(t, a, b); !slices.EqualFunc(got, want, same) {
			t.Error(a, b, got, want)
		}
	})
}

// digits returns a number that no other shape has.
func digits(l []int) int {
	n := 0
	for _, d := range l {
		n = 10*n + d
	}
	return n
}

// P1.9
func TestProductOfValues(t *testing.T) {
	x := []int{2, -1, 3, 1}
	value := map[int]int{}
	of := func(l []int) int {
		key := digits(l)
		if v, ok := value[key]; ok {
			return v
		}
		v, e := schur.Schur(l, x)
		if e != api.OK {
			t.Fatal(l, e)
		}
		value[key] = v
		return v
	}
	pairs(8, func(a, b []int) {
		total := 0
		for _, term := range product(t, a, b) {
			total += term.Count * of(term.Shape)
		}
		if total != of(a)*of(b) {
			t.Error(a, b, total)
		}
	})
}

// P1.10
func TestProductIsCommutative(t *testing.T) {
	pairs(8, func(a, b []int) {
		if x, y := product(t, a, b), product(t, b, a); !reflect.DeepEqual(x, y) {
			t.Error(a, b, x, y)
		}
	})
}

// P1.10
func TestRuleOfConjugates(t *testing.T) {
	pairs(7, func(a, b []int) {
		for _, c := range shapesOf(sum(a) + sum(b)) {
			x := rule(t, a, b, c)
			y := rule(t, conjugate(a), conjugate(b), conjugate(c))
			if x != y {
				t.Error(a, b, c, x, y)
			}
		}
	})
}

// P1.3: results are new memory, and arguments stay.
func TestProductSharesNothing(t *testing.T) {
	a, b := []int{2, 1}, []int{1}
	terms := product(t, a, b)
	for i := range terms {
		shape := terms[i].Shape[:cap(terms[i].Shape)]
		for j := range shape {
			shape[j] = 10 * i
		}
	}
	if !slices.Equal(a, []int{2, 1}) || !slices.Equal(b, []int{1}) {
		t.Error(a, b)
	}
	for i := range terms {
		if terms[i].Shape[0] != 10*i {
			t.Error(terms)
		}
	}
	if got := product(t, nil, b); !slices.Equal(got[0].Shape, b) {
		t.Error(got)
	} else if got[0].Shape[0] = 7; b[0] != 1 {
		t.Error(b)
	}
}
