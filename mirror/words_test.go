package mirror_test

import (
	"fmt"
	"slices"
	"testing"

	"corsage/api"
	"corsage/mirror"
)

// P2.1, P2.3
func TestWordsExamples(t *testing.T) {
	a := mirror.Group{Kind: 'A', N: 2}
	if l, e := mirror.All(a); e != api.OK || !sameWords(l, [][]int{{}, {0}, {1}, {0, 1}, {1, 0}, {0, 1, 0}}) {
		t.Error(l, e)
	}
	if l, e := mirror.All(mirror.Group{Kind: 'A', N: 1}); e != api.OK || !sameWords(l, [][]int{{}, {0}}) {
		t.Error(l, e)
	}
	if l, e := mirror.All(mirror.Group{Kind: 'I', N: 2}); e != api.OK || !sameWords(l, [][]int{{}, {0}, {1}, {0, 1}}) {
		t.Error(l, e)
	}
	for _, x := range []struct {
		g     mirror.Group
		w     []int
		words [][]int
	}{
		{a, []int{1, 0, 1}, [][]int{{0, 1, 0}, {1, 0, 1}}},
		{a, nil, [][]int{{}}},
		{a, []int{1, 1}, [][]int{{}}},
		{a, []int{0, 1, 0, 1}, [][]int{{1, 0}}},
		{mirror.Group{Kind: 'A', N: 3}, []int{2, 0}, [][]int{{0, 2}, {2, 0}}},
		{mirror.Group{Kind: 'A', N: 3}, []int{2, 0, 2}, [][]int{{0}}},
		{mirror.Group{Kind: 'B', N: 2}, []int{1, 0, 1}, [][]int{{1, 0, 1}}},
		{mirror.Group{Kind: 'B', N: 2}, []int{1, 0, 1, 0}, [][]int{{0, 1, 0, 1}, {1, 0, 1, 0}}},
		{mirror.Group{Kind: 'B', N: 3}, []int{1, 0, 1}, [][]int{{0, 1, 0}, {1, 0, 1}}},
		{mirror.Group{Kind: 'B', N: 3}, []int{2, 1, 2, 1}, [][]int{{1, 2, 1, 2}, {2, 1, 2, 1}}},
		{mirror.Group{Kind: 'B', N: 3}, []int{2, 1, 2}, [][]int{{2, 1, 2}}},
		{mirror.Group{Kind: 'I', N: 2}, []int{1, 0}, [][]int{{0, 1}, {1, 0}}},
		{mirror.Group{Kind: 'I', N: 12}, []int{1, 0, 1, 0, 1, 0, 1, 0, 1, 0, 1, 0, 1}, [][]int{{0, 1, 0, 1, 0, 1, 0, 1, 0, 1, 0}}},
	} {
		words, e1 := mirror.Words(x.g, x.w)
		normal, e2 := mirror.Normal(x.g, x.w)
		n, e3 := mirror.Length(x.g, x.w)
		if !sameWords(words, x.words) || !slices.Equal(normal, x.words[0]) || n != len(x.words[0]) || e1 != api.OK || e2 != api.OK || e3 != api.OK {
			t.Error(x, words, normal, n, e1, e2, e3)
		}
	}
}

// P2.1, by replacing and leaving out letters.
func TestNormalLengthWords(t *testing.T) {
	for _, o := range worlds() {
		all := o.long()
		for _, words := range o.short {
			all = append(all, words[0], words[len(words)-1])
		}
		for _, w := range all {
			x := o.follow(0, w)
			words, e1 := mirror.Words(o.g, w)
			normal, e2 := mirror.Normal(o.g, w)
			n, e3 := mirror.Length(o.g, w)
			if !sameWords(words, o.short[x]) || !slices.Equal(normal, o.normal(x)) || n != len(o.normal(x)) || e1 != api.OK || e2 != api.OK || e3 != api.OK {
				t.Error(o.g, w, words, normal, n, e1, e2, e3)
			}
		}
	}
}

// P2.2, P2.8: Length of a product differs from the sum of the lengths by an even number.
func TestTimes(t *testing.T) {
	for _, o := range worlds() {
		for x := range o.short {
			for y, words := range o.short {
				if len(o.short) > 48 && (x+y)%7 != 0 {
					continue
				}
				u, w := o.short[x][len(o.short[x])-1], words[len(words)-1]
				got, e := mirror.Times(o.g, u, w)
				if e != api.OK || !slices.Equal(got, o.normal(o.follow(x, w))) || (len(u)+len(w)-len(got))%2 != 0 {
					t.Error(o.g, u, w, got, e)
				}
			}
		}
		// together, the words may have more than 30 letters
		for _, w := range o.long() {
			got, e := mirror.Times(o.g, w, w)
			if e != api.OK || !slices.Equal(got, o.normal(o.follow(o.follow(0, w), w))) {
				t.Error(o.g, w, got, e)
			}
		}
	}
}

// P2.2
func TestBack(t *testing.T) {
	for _, o := range worlds() {
		for _, w := range o.long() {
			got, e := mirror.Back(o.g, w)
			if e != api.OK || !slices.Equal(got, o.normal(o.back(o.follow(0, w)))) {
				t.Error(o.g, w, got, e)
			}
		}
		for x := range o.short {
			got, e := mirror.Back(o.g, o.normal(x))
			one, f := mirror.Times(o.g, o.normal(x), got)
			if e != api.OK || f != api.OK || len(got) != len(o.normal(x)) || len(one) != 0 {
				t.Error(o.g, o.normal(x), got, e, one, f)
			}
		}
	}
}

// P2.3
func TestAllCountsLongest(t *testing.T) {
	for _, o := range worlds() {
		all, e := mirror.All(o.g)
		if e != api.OK || len(all) != len(o.short) {
			t.Fatal(o.g, len(all), e)
		}
		lengths := make([]int, len(all[len(all)-1])+1)
		for x, w := range all {
			if !slices.Equal(w, o.normal(x)) {
				t.Error(o.g, x, w)
			}
			lengths[len(w)]++
		}
		if got, e := mirror.Counts(o.g); e != api.OK || !slices.Equal(got, lengths) {
			t.Error(o.g, got, e)
		}
		if got, e := mirror.Longest(o.g); e != api.OK || !slices.Equal(got, all[len(all)-1]) || lengths[len(got)] != 1 {
			t.Error(o.g, got, e)
		}
	}
}

// P2.9
func TestCountsAreProducts(t *testing.T) {
	for _, g := range groups() {
		degrees := []int{1, g.N - 1}
		if g.Kind != 'I' {
			degrees = nil
			for k := 1; k <= g.N; k++ {
				degrees = append(degrees, map[byte]int{'A': k, 'B': 2*k - 1}[g.Kind])
			}
		}
		want := []int{1}
		for _, d := range degrees {
			more := make([]int, len(want)+d)
			for i, n := range want {
				for k := range d + 1 {
					more[i+k] += n
				}
			}
			want = more
		}
		backward := slices.Clone(want)
		slices.Reverse(backward)
		if got, e := mirror.Counts(g); e != api.OK || !slices.Equal(got, want) || !slices.Equal(got, backward) {
			t.Error(g, got, want, e)
		}
	}
}

// P2.8
func TestWordsAreConnected(t *testing.T) {
	for _, o := range worlds() {
		for x := range o.short {
			words, e := mirror.Words(o.g, o.normal(x))
			if e != api.OK || len(words) == 0 {
				t.Fatal(o.g, o.normal(x), words, e)
			}
			met := map[string]bool{fmt.Sprint(words[0]): true}
			for list := [][]int{words[0]}; len(list) > 0; list = list[1:] {
				for _, w := range turns(o.g, list[0]) {
					if !met[fmt.Sprint(w)] {
						met[fmt.Sprint(w)] = true
						list = append(list, w)
					}
				}
			}
			for _, w := range words {
				if !met[fmt.Sprint(w)] || letters(w) != letters(words[0]) {
					t.Error(o.g, w, words[0])
				}
			}
			if len(met) != len(words) {
				t.Error(o.g, o.normal(x), len(met), len(words))
			}
		}
	}
}

// letters returns the set of the letters of w.
func letters(w []int) int {
	set := 0
	for _, s := range w {
		set |= 1 << s
	}
	return set
}

// P2.1 to P2.3: results are new memory, arguments stay, and what is done to a result changes no later one.
func TestWordsShareNothing(t *testing.T) {
	g := mirror.Group{Kind: 'A', N: 3}
	u, w := []int{0, 1, 0, 2, 1}, []int{1, 2, 1}
	for range 2 {
		words, _ := mirror.Words(g, u)
		all, _ := mirror.All(g)
		normal, _ := mirror.Normal(g, w)
		short, _ := mirror.Normal(g, []int{0})
		product, _ := mirror.Times(g, u, nil)
		back, _ := mirror.Back(g, w)
		counts, _ := mirror.Counts(g)
		longest, _ := mirror.Longest(g)
		if len(words) != 5 || len(all) != 24 || len(normal) != 3 || len(short) != 1 || len(product) != 5 || len(back) != 3 || !slices.Equal(longest, []int{0, 1, 0, 2, 1, 0}) {
			t.Error(words, all, normal, short, product, back, counts, longest)
		}
		if !scribbled(slices.Concat(words, all, [][]int{normal, short, product, back, counts, longest})) {
			t.Error(words, all, normal, short, product, back, counts, longest)
		}
		if !slices.Equal(u, []int{0, 1, 0, 2, 1}) || !slices.Equal(w, []int{1, 2, 1}) {
			t.Error(u, w)
		}
	}
}
