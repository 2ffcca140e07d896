package caps

import (
	"slices"

	"corsage/api"
)

// maxMost is the greatest n that Most and Wide take.
const maxMost = 25

// modulus is what residues are taken modulo.
type modulus int

// isModulus reports whether there are residues modulo n.
func isModulus(n int) bool { return n >= 2 && n <= api.MaxCap }

// areResidues reports whether l is a slice of residues modulo n.
func areResidues(n int, l []int) bool { return isModulus(n) && isRising(l, 0, n) }

// keepsDifferent reports whether the residues l have different sums also with x.
func (n modulus) keepsDifferent(l []int, x int) bool {
	all := append(slices.Clone(l), x)
	var met [api.MaxCap]bool
	for i, a := range all {
		for _, b := range all[:i+1] {
			sum := (a + b) % int(n)
			if met[sum] {
				return false
			}
			met[sum] = true
		}
	}
	return true
}

// keepsFree reports whether the residues l are free of sums also with x.
func (n modulus) keepsFree(l []int, x int) bool {
	all := append(slices.Clone(l), x)
	var in [api.MaxCap]bool
	for _, a := range all {
		in[a] = true
	}
	for _, a := range all {
		for _, b := range all {
			if in[(a+b)%int(n)] {
				return false
			}
		}
	}
	return true
}

// Sums reports whether the residues l have different sums.
func Sums(n int, l []int) (bool, api.Errno) {
	if !areResidues(n, l) {
		return false, api.ErrArg
	}
	return keepsTo(modulus(n).keepsDifferent, l), api.OK
}

// Most returns, of the slices with different sums that have the most residues, the first one.
func Most(n int) ([]int, api.Errno) {
	if !isModulus(n) || n > maxMost {
		return nil, api.ErrArg
	}
	return longest(modulus(n).keepsDifferent, between(0, n)), api.OK
}

// Apart reports whether the residues l are free of sums.
func Apart(n int, l []int) (bool, api.Errno) {
	if !areResidues(n, l) {
		return false, api.ErrArg
	}
	return keepsTo(modulus(n).keepsFree, l), api.OK
}

// Wide returns, of the slices that are free of sums and have the most residues, the first one.
func Wide(n int) ([]int, api.Errno) {
	if !isModulus(n) || n > maxMost {
		return nil, api.ErrArg
	}
	return longest(modulus(n).keepsFree, between(0, n)), api.OK
}
