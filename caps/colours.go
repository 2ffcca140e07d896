package caps

import "corsage/api"

// The bounds of colours.
const (
	maxColours = 3
	maxOfThree = 27 // the greatest n that Waerden takes with 3 colours
)

// colourNoSum reports whether the number behind those that l colours may have that colour: whether it is no sum of two numbers of the same one.
func colourNoSum(l []int, colour int) bool {
	for i, other := range l {
		if other == colour && l[len(l)-1-i] == colour {
			return false
		}
	}
	return true
}

// stride is the length of progressions.
type stride int

// mayAdd reports whether the number behind those that l colours may have that colour: whether it is at the end of no progression of it.
func (k stride) mayAdd(l []int, colour int) bool {
	for step := 1; step*int(k-1) <= len(l); step++ {
		if k.allHave(l, colour, step) {
			return false
		}
	}
	return true
}

// allHave reports whether all numbers before the last one of a progression with this step have the colour.
func (k stride) allHave(l []int, colour, step int) bool {
	for i := 1; i < int(k); i++ {
		if l[len(l)-i*step] != colour {
			return false
		}
	}
	return true
}

// colouring returns the first colouring of 1 to n that keeps to a rule.
func colouring(mayAdd rule, n, colours int) ([]int, api.Errno) {
	l, found := first(mayAdd, n, colours)
	if !found {
		return nil, api.ErrNone
	}
	return l, api.OK
}

// Schur returns the first colouring without x, y and x + y of one colour.
func Schur(n, colours int) ([]int, api.Errno) {
	if !isCount(n) || colours < 1 || colours > maxColours {
		return nil, api.ErrArg
	}
	return colouring(colourNoSum, n, colours)
}

// Waerden returns the first colouring without a progression of length k of one colour.
func Waerden(n, colours, k int) ([]int, api.Errno) {
	if !isCount(n) || colours < 1 || colours > maxColours || k != 3 && k != 4 {
		return nil, api.ErrArg
	}
	if colours == maxColours && n > maxOfThree {
		return nil, api.ErrArg
	}
	return colouring(stride(k).mayAdd, n, colours)
}
