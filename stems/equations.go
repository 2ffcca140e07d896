package stems

import "corsage/api"

// shares are numbers that are all divided by one divisor, which is above 0: so they are compared and added without fractions.
type shares struct {
	numbers []int
	divisor int
}

// lowest returns the fraction of a number and a divisor above 0.
func lowest(number, divisor int) api.Frac {
	a, b := max(number, -number), divisor
	for b != 0 {
		a, b = b, a%b
	}
	return api.Frac{Num: number / a, Den: divisor / a}
}

// fracs returns x as fractions.
func (x shares) fracs() []api.Frac {
	l := make([]api.Frac, len(x.numbers))
	for i, number := range x.numbers {
		l[i] = lowest(number, x.divisor)
	}
	return l
}

// square returns n rows of n zeros.
func square(n int) [][]int {
	rows := make([][]int, n)
	for i := range rows {
		rows[i] = make([]int, n)
	}
	return rows
}

// replaced returns the rows with other numbers in column j.
func replaced(rows [][]int, j int, column []int) [][]int {
	m := square(len(rows))
	for i, row := range rows {
		copy(m[i], row)
		m[i][j] = column[i]
	}
	return m
}

// without returns the rows without column j.
func without(rows [][]int, j int) [][]int {
	m := make([][]int, len(rows))
	for i, row := range rows {
		m[i] = append(m[i], row[:j]...)
		m[i] = append(m[i], row[j+1:]...)
	}
	return m
}

// determinant returns the determinant of rows.
func determinant(rows [][]int) int {
	if len(rows) == 0 {
		return 1
	}
	total, sign := 0, 1
	for j, x := range rows[0] {
		total += sign * x * determinant(without(rows[1:], j))
		sign = -sign
	}
	return total
}

// solve returns the shares x such that each row, times x, has the sum that stands at its place in right, if there is just one solution.
// The numbers are determinants (Cramer's rule): nothing is divided.
func solve(rows [][]int, right []int) shares {
	d := determinant(rows)
	sign := 1
	if d < 0 {
		sign = -1
	}
	x := shares{divisor: sign * d}
	for j := range rows {
		x.numbers = append(x.numbers, sign*determinant(replaced(rows, j, right)))
	}
	return x
}
