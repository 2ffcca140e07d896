package schemes_test

import (
	"slices"
	"testing"

	"corsage/api"
	"corsage/schemes"
)

// family is a function of a size, the sizes that it takes, and the webs and Numbers that they should give.
type family struct {
	call  func(n int) ([]int, api.Errno)
	sizes []int
	want  func(n int) web
	have  []schemes.Numbers
}

func families() []family {
	return []family{
		{schemes.Squares, []int{5, 13}, squares, []schemes.Numbers{{N: 5, K: 2, L: 0, M: 1}, {N: 13, K: 6, L: 2, M: 3}}},
		{schemes.Pairs, []int{4, 5, 6}, pairs, []schemes.Numbers{{N: 6, K: 4, L: 2, M: 4}, {N: 10, K: 6, L: 3, M: 4}, {N: 15, K: 8, L: 4, M: 4}}},
		{schemes.Grid, []int{2, 3, 4}, grid, []schemes.Numbers{{N: 4, K: 2, L: 0, M: 2}, {N: 9, K: 4, L: 1, M: 2}, {N: 16, K: 6, L: 2, M: 2}}},
	}
}

// P6.3, P6.8
func TestFamilies(t *testing.T) {
	for x, f := range families() {
		for i, n := range f.sizes {
			g, e := f.call(n)
			if !slices.Equal(g, f.want(n).write()) || e != api.OK {
				t.Error(x, n, g, e)
			}
			if y, e := schemes.Read(g); y != f.have[i] || e != api.OK {
				t.Error(x, n, y, e)
			}
			clear(g)
			if again, _ := f.call(n); !slices.Equal(again, f.want(n).write()) {
				t.Error(x, n, again)
			}
		}
	}
}

// P6.3
func TestFamiliesInOrder(t *testing.T) {
	// the pairs below 4 are 01 02 03 12 13 23
	if g, e := schemes.Pairs(4); !slices.Equal(g, []int{30, 45, 51, 51, 45, 30}) || e != api.OK {
		t.Error(g, e)
	}
	// 01 02 03 04 12 13 14 23 24 34: the first one meets all with 0 or 1, the last one all with 3 or 4
	if g, e := schemes.Pairs(5); len(g) != 10 || g[0] != 0b0001111110 || g[9] != 0b0111101100 || e != api.OK {
		t.Error(g, e)
	}
	if g, e := schemes.Grid(2); !slices.Equal(g, []int{6, 9, 9, 6}) || e != api.OK {
		t.Error(g, e)
	}
	if g, e := schemes.Squares(5); !slices.Equal(g, []int{18, 5, 10, 20, 9}) || e != api.OK {
		t.Error(g, e)
	}
	// the squares modulo 13 are 1 3 4 9 10 12
	if g, e := schemes.Squares(13); len(g) != 13 || g[0] != 0b1011000011010 || e != api.OK {
		t.Error(g, e)
	}
}

// P6.3: all sizes that are not named.
func TestFamiliesRefuse(t *testing.T) {
	for x, f := range families() {
		others := strange()
		for n := -20; n <= 100; n++ {
			others = append(others, n)
		}
		for _, n := range others {
			if !slices.Contains(f.sizes, n) {
				g, e := f.call(n)
				refused(t, len(g) == 0, e, api.ErrArg, x, n)
			}
		}
	}
}
