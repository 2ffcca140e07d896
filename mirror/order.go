package mirror

import "corsage/api"

// Falls returns the set of mirrors that make w's element shorter behind it.
func Falls(g Group, w []int) (int, api.Errno) {
	t, x, e := open(g, w)
	if e != api.OK {
		return 0, e
	}
	set := 0
	for s := range mirrorsOf(g) {
		if t.falls(x[0], s) {
			set |= 1 << s
		}
	}
	return set, api.OK
}

// Below reports whether u's element is below w's.
func Below(g Group, u, w []int) (bool, api.Errno) {
	t, x, e := open(g, u, w)
	if e != api.OK {
		return false, e
	}
	return t.below(x[0], x[1]), api.OK
}

// Leave returns the index of the letter without which the short word w is a word of the product of w's element and s.
func Leave(g Group, w []int, s int) (int, api.Errno) {
	t, x, e := open(g, w)
	if e != api.OK {
		return 0, e
	}
	if t.length(x[0]) != len(w) || !isMirror(g, s) {
		return 0, api.ErrArg
	}
	for k := range w {
		if t.follow(0, without(w, k)) == t.right[x[0]][s] {
			return k, api.OK
		}
	}
	return 0, api.ErrNone
}

// Covers returns the normal words of all elements below w's whose length is one less, in order.
func Covers(g Group, w []int) ([][]int, api.Errno) {
	t, x, e := open(g, w)
	if e != api.OK {
		return nil, e
	}
	var all [][]int
	for u, word := range t.words {
		if t.length(u) == t.length(x[0])-1 && t.below(u, x[0]) {
			all = append(all, word)
		}
	}
	return all, api.OK
}

// Coset returns the normal word of the shortest of all products of w's element and elements whose words have mirrors of the set alone.
func Coset(g Group, w []int, mirrors int) ([]int, api.Errno) {
	t, x, e := open(g, w)
	if e != api.OK {
		return nil, e
	}
	if mirrors < 0 || mirrors >= 1<<mirrorsOf(g) {
		return nil, api.ErrArg
	}
	return t.words[t.shortest(x[0], mirrors)], api.OK
}

// shortest returns the shortest product of x and elements whose words have mirrors of the set alone.
// Going down by any single mirrors of the set leads there: just one of the products falls by none of them.
func (t *table) shortest(x, set int) int {
	for s, xs := range t.right[x] {
		if set>>s&1 == 1 && t.falls(x, s) {
			return t.shortest(xs, set)
		}
	}
	return x
}
