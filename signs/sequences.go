package signs

import "corsage/api"

// length reports whether sequences may have m signs.
func length(m int) bool { return m == 1 || m == 3 || m == 5 }

// isSequence reports whether s is a sequence of m signs.
func isSequence(m, s int) bool {
	if !isSet(s, m) {
		return false
	}
	for i := 1; i < m; i++ {
		if has(s, i) != has(s, m-i) {
			return false
		}
	}
	return true
}

// sequences reports whether s are four sequences of m signs.
func sequences(m int, s [4]int) bool {
	if !length(m) {
		return false
	}
	for _, x := range s {
		if !isSequence(m, x) {
			return false
		}
	}
	return true
}

// good reports whether four sequences are good.
// The square of a circulant is one too, so its row 0 tells it; there the sum in column 0 is 4 m anyway, as each circulant is the same with rows and columns exchanged.
func good(m int, s [4]int) bool {
	for k := 1; k < m; k++ {
		differ := 0
		for _, x := range s {
			for i := range m {
				if has(x, i) != has(x, (k-i+m)%m) {
					differ++
				}
			}
		}
		if 2*differ != 4*m {
			return false
		}
	}
	return true
}

// Good reports whether four sequences are good.
func Good(m int, s [4]int) (bool, api.Errno) {
	if !sequences(m, s) {
		return false, api.ErrArg
	}
	return good(m, s), api.OK
}

// Array returns the array of four sequences.
func Array(m int, s [4]int) ([]int, api.Errno) {
	if !sequences(m, s) {
		return nil, api.ErrArg
	}
	if 4*m > api.MaxSigns {
		return nil, api.ErrSize
	}
	// The number of the sequence in a block is that of its row with the bits of its column changed; these are the signs before it.
	before := [4]int{0, 5, 9, 3}
	minus := func(i, j int) bool {
		row, column := i/m, j/m
		return has(before[row], column) != has(s[row^column], (j-i+4*m)%m)
	}
	return plant(4*m, minus), api.OK
}

// Find returns the first four good sequences; there are some for each m that is allowed.
func Find(m int) ([4]int, api.Errno) {
	if !length(m) {
		return [4]int{}, api.ErrArg
	}
	var s [4]int
	var place func(k int) bool
	place = func(k int) bool {
		if k == len(s) {
			return good(m, s)
		}
		for x := range 1 << m {
			if !isSequence(m, x) {
				continue
			}
			s[k] = x
			if place(k + 1) {
				return true
			}
		}
		return false
	}
	place(0)
	return s, api.OK
}

// Four returns all four odd numbers with a sum of squares.
func Four(n int) ([][4]int, api.Errno) {
	if n < 1 || n > 100 {
		return nil, api.ErrArg
	}
	var all [][4]int
	var four [4]int
	var place func(k, least, rest int)
	place = func(k, least, rest int) {
		if k == len(four) {
			if rest == 0 {
				all = append(all, four)
			}
			return
		}
		for x := least; x*x <= rest; x += 2 {
			four[k] = x
			place(k+1, x, rest-x*x)
		}
	}
	place(0, 1, 4*n)
	return all, api.OK
}
