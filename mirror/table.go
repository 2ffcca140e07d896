package mirror

// turn is an element as what it does: where it takes each of the points on which the group acts.
// Kind 'A' has N + 1 points in a row; 'B' has 2 N, of which p and 2 N - 1 - p are opposites that stay so.
// 'I' has 2 N points in a ring, not N: of two points, mirror 0 would move none.
type turn [2 * maxRing]byte

// still returns the element that changes nothing.
func still() turn {
	var x turn
	for p := range x {
		x[p] = byte(p)
	}
	return x
}

// mirrorOf returns mirror s of g.
func mirrorOf(g Group, s int) turn {
	x := still()
	last := 2*g.N - 1
	switch g.Kind {
	case 'A':
		x.swap(s, s+1)
	case 'B':
		x.swap(s, s+1)
		if s < g.N-1 { // the last mirror exchanges two opposites: it is its own opposite
			x.swap(last-s, last-s-1)
		}
	case 'I':
		for p := range 2 * g.N {
			x[p] = byte((last + 2*s - p) % (2 * g.N))
		}
	}
	return x
}

// swap exchanges what two points are taken to.
func (x *turn) swap(p, q int) { x[p], x[q] = x[q], x[p] }

// before returns the product of x and y.
func (x turn) before(y turn) turn {
	var xy turn
	for p, q := range y {
		xy[p] = x[q]
	}
	return xy
}

// table is a group's elements, which are indices in their order; 0 is the one that changes nothing.
type table struct {
	words [][]int // the normal words
	right [][]int // right[x][s] is the product of x and the mirror s
}

// newTable returns the table of g.
// Each element is met first from the least beginning of its normal word and by the least letter: so the elements come in order, each by its normal word.
func newTable(g Group) *table {
	steps := make([]turn, mirrorsOf(g))
	for s := range steps {
		steps[s] = mirrorOf(g, s)
	}
	turns := []turn{still()}
	index := map[turn]int{turns[0]: 0}
	t := &table{words: [][]int{nil}}
	for x := 0; x < len(turns); x++ {
		row := make([]int, len(steps))
		for s, step := range steps {
			xs := turns[x].before(step)
			k, met := index[xs]
			if !met {
				k = len(turns)
				index[xs] = k
				turns = append(turns, xs)
				t.words = append(t.words, with(t.words[x], s))
			}
			row[s] = k
		}
		t.right = append(t.right, row)
	}
	return t
}

// with returns the word w and the letter s behind it, in new memory.
func with(w []int, s int) []int {
	return append(w[:len(w):len(w)], s)
}

// without returns the word w without its letter k, in new memory.
func without(w []int, k int) []int {
	return append(w[:k:k], w[k+1:]...)
}

// length returns the length of x.
func (t *table) length(x int) int { return len(t.words[x]) }

// follow returns the product of x and the element of w.
func (t *table) follow(x int, w []int) int {
	for _, s := range w {
		x = t.right[x][s]
	}
	return x
}

// falls reports whether the product of x and the mirror s is shorter than x.
func (t *table) falls(x, s int) bool {
	return t.length(t.right[x][s]) < t.length(x)
}

// below reports whether u is below w.
func (t *table) below(u, w int) bool {
	for w != 0 {
		// With s the last letter of w, u is below w if and only if the shorter one of u and u s is below w s.
		s := t.last(w)
		w = t.right[w][s]
		if t.falls(u, s) {
			u = t.right[u][s]
		}
	}
	return u == 0
}

// last returns the last letter of the normal word of x, which is not 0.
func (t *table) last(x int) int {
	return t.words[x][t.length(x)-1]
}
