package caps

import (
	"slices"

	"corsage/api"
)

// maxLong is the greatest n that Long takes.
const maxLong = 24

// isCount reports whether the numbers 1 to n may be asked about.
func isCount(n int) bool { return n >= 1 && n <= api.MaxCap }

// endsNone reports whether x, which is above the numbers l, is at the end of no progression of length 3.
func endsNone(l []int, x int) bool {
	for _, middle := range l {
		if slices.Contains(l, 2*middle-x) {
			return false
		}
	}
	return true
}

// Steps reports whether the numbers l contain no progression of length 3.
func Steps(n int, l []int) (bool, api.Errno) {
	if !isCount(n) || !isRising(l, 1, n+1) {
		return false, api.ErrArg
	}
	return keepsTo(endsNone, l), api.OK
}

// Long returns the greatest number of numbers from 1 to n without a progression of length 3.
func Long(n int) (int, api.Errno) {
	if n < 1 || n > maxLong {
		return 0, api.ErrArg
	}
	return len(longest(endsNone, between(1, n+1))), api.OK
}
