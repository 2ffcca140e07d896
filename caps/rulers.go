package caps

import (
	"slices"

	"corsage/api"
)

// The bounds of rulers.
const (
	maxMarks  = 10
	maxLength = 60
	maxShort  = 7 // the greatest k that Short takes
)

// mayMark reports whether the ruler l stays one with x behind it.
func mayMark(l []int, x int) bool {
	if len(l) == 0 {
		return x == 0
	}
	if x <= l[len(l)-1] {
		return false
	}
	all := append(slices.Clone(l), x)
	var met [maxLength + 1]bool
	for i, b := range all {
		for _, a := range all[:i] {
			if met[b-a] {
				return false
			}
			met[b-a] = true
		}
	}
	return true
}

// Ruler reports whether l is a ruler.
func Ruler(l []int) (bool, api.Errno) {
	if len(l) < 1 || len(l) > maxMarks {
		return false, api.ErrArg
	}
	for _, x := range l {
		if x < 0 || x > maxLength {
			return false, api.ErrArg
		}
	}
	return keepsTo(mayMark, l), api.OK
}

// Short returns, of the rulers with k numbers that have the least length, the first one.
// Its length is the least for which rulers with k numbers are found: so none of those that are found is shorter.
func Short(k int) ([]int, api.Errno) {
	if k < 1 || k > maxShort {
		return nil, api.ErrArg
	}
	var l []int
	for length, found := 0, false; !found; length++ {
		l, found = first(mayMark, k, length+1)
	}
	return l, api.OK
}
