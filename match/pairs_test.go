package match

import (
	"slices"
	"testing"

	"thermion/api"
)

// spaced makes a sorting in which each two neighbours of a row are alike, and others are not.
func spaced(count int) api.Sorting {
	s := api.Sorting{Tol: []int{1}}
	for n := range count {
		s.Items = append(s.Items, []api.Range{one(n)})
	}
	return s
}

// P8.2: the chapter's examples.
func TestExamplesOfPairs(t *testing.T) {
	s := sortingS()
	for i, c := range []struct {
		s    api.Sorting
		want [][2]int
	}{{s, [][2]int{{0, 1}, {2, 3}}}, {row(1, 10, 11, 12, 14, 15), [][2]int{{0, 1}, {3, 4}}}} {
		if l, e := Pairs(c.s); !slices.Equal(l, c.want) || e != api.OK {
			t.Error(i, l, e)
		}
	}
	if l, e := Proof(s); !slices.Equal(l, []int{3}) || e != api.OK {
		t.Error(l, e)
	}
	for i, c := range []struct {
		cut  []int
		want int
	}{{[]int{3}, 2}, {nil, 2}, {[]int{2}, 3}} {
		if n, e := Bound(s, c.cut); n != c.want || e != api.OK {
			t.Error(i, n, e)
		}
	}
}

// groups makes an item that is alike to all items of some groups, each of which are so many items that are alike to each other, but not to those of other groups. Each group is far from the others in one of the values.
func groups(count int) api.Sorting {
	s := api.Sorting{Tol: []int{10, 10}, Items: [][]api.Range{{one(10), one(10)}}}
	for _, at := range [][]int{{0, 0}, {20, 0}, {0, 20}, {20, 20}} {
		for range count {
			s.Items = append(s.Items, []api.Range{one(at[0]), one(at[1])})
		}
	}
	return s
}

// P8.2: pairings and proofs that were found by hand.
func TestPairs(t *testing.T) {
	for i, c := range []struct {
		s     api.Sorting
		pairs [][2]int
		proof []int
	}{
		{row(3), nil, nil},
		{row(3, 1), nil, nil},
		{row(3, 1, 4), [][2]int{{0, 1}}, nil},
		{row(3, 1, 5), nil, nil},
		{row(3, 1, 2, 3), [][2]int{{0, 1}}, nil}, // each one is left out by a pairing
		{row(0, 5, 1, 5, 1, 5), [][2]int{{0, 2}, {1, 3}}, nil},
		{row(1, 2, 1, 3), [][2]int{{0, 1}}, []int{0}},
		{spaced(5), [][2]int{{0, 1}, {2, 3}}, []int{1, 3}},
		{spaced(6), [][2]int{{0, 1}, {2, 3}, {4, 5}}, nil},
		{row(1, 2, 3, 1, 4), [][2]int{{0, 2}, {1, 3}}, nil},            // 0 with 1 would leave both others out
		{row(1, 2, 1, 3, 9), [][2]int{{0, 1}}, []int{0}},               // 9 is alone
		{row(1, 3, 2, 4, 1, 5), [][2]int{{0, 1}, {2, 4}}, []int{1, 2}}, // 0 is left out by some, but not by the first one
		{groups(1), [][2]int{{0, 1}}, []int{0}},
		{groups(3), [][2]int{{0, 1}, {2, 3}, {4, 5}, {7, 8}, {10, 11}}, []int{0}},
		{groups(2), [][2]int{{0, 1}, {3, 4}, {5, 6}, {7, 8}}, nil}, // each one can be left out
	} {
		l, e1 := Pairs(c.s)
		p, e2 := Proof(c.s)
		n, e3 := Bound(c.s, p)
		if !slices.Equal(l, c.pairs) || !slices.Equal(p, c.proof) || n != len(l) || e1 != api.OK || e2 != api.OK || e3 != api.OK {
			t.Error(i, l, p, n, e1, e2, e3)
		}
	}
}

// P8.2: the errors of a cut, number by number, and those of the sorting before them.
func TestErrorsOfCuts(t *testing.T) {
	for i, c := range []struct {
		cut  []int
		n    int
		want api.Errno
	}{
		{nil, 2, api.OK}, {[]int{0, 1, 2, 3, 4}, 5, api.OK}, {[]int{1, 2}, 3, api.OK}, {[]int{0, 4}, 3, api.OK}, {[]int{1, 3}, 3, api.OK}, {[]int{2, 3}, 3, api.OK},
		{[]int{5}, 0, api.ErrMissing}, {[]int{-1}, 0, api.ErrMissing}, {[]int{0, 0}, 0, api.ErrOrder}, {[]int{4, 0}, 0, api.ErrOrder},
		{[]int{1, 0, 5}, 0, api.ErrOrder}, {[]int{1, 5, 0}, 0, api.ErrMissing}, {[]int{1, -1}, 0, api.ErrMissing}, {make([]int, 5000), 0, api.ErrOrder},
	} {
		if n, e := Bound(sortingS(), c.cut); n != c.n || e != c.want {
			t.Error(i, n, e)
		}
		if n, e := Bound(row(-1, 1), c.cut); n != 0 || e != api.ErrRange {
			t.Error(i, n, e)
		}
	}
	if n, e := Bound(row(1), nil); n != 0 || e != api.OK {
		t.Error(n, e)
	}
	if n, e := Bound(row(1), []int{0}); n != 0 || e != api.ErrMissing {
		t.Error(n, e)
	}
}

// P8.2, P8.6, P8.7 (the most): the first of all pairings with the most pairs, the proof by all of them, and no cut with a lesser bound.
func TestPairsPlainly(t *testing.T) {
	sizes, proofs := map[int]int{}, map[int]int{}
	sortings(t, 10, 3000, smallKind, func(d *dice, s api.Sorting) {
		best := plainBest(s)
		want := pairsOf(best[0])
		if l := pairsIn(t, s); !slices.Equal(l, want) {
			t.Error(l, want)
		}
		var proof []int
		for n := range s.Items {
			if !isFree(best, n) && slices.ContainsFunc(slices.Collect(upTo(len(s.Items)).all()), func(b int) bool { return isFree(best, b) && plainAlike(s, n, b) }) {
				proof = append(proof, n)
			}
		}
		if l := proofOf(t, s); !slices.Equal(l, proof) {
			t.Error(l, proof)
		}
		least := len(s.Items)
		for cut := range upTo(len(s.Items)).subsets() {
			n, e := Bound(s, cut.list())
			if n != plainBound(s, cut.list()) || e != api.OK {
				t.Error(cut.list(), n, e)
			}
			least = min(least, n)
		}
		if least != len(want) || plainBound(s, proof) != least {
			t.Error(least, want, proof)
		}
		sizes[len(want)]++
		proofs[len(proof)]++
	})
	if sizes[0] < 300 || sizes[2] < 300 || sizes[4] < 300 || proofs[0] < 300 || proofs[1] < 200 || proofs[2] < 50 {
		t.Error(sizes, proofs)
	}
}

// isFree reports whether one of some pairings leaves an item out.
func isFree(all [][]int, n int) bool {
	return slices.ContainsFunc(all, func(l []int) bool { return l[n] == len(l) })
}

// plainMost returns how many pairs items of a set can have, with what it found before.
func plainMost(l likes, in set, found map[set]int) int {
	if in == 0 {
		return 0
	}
	if n, is := found[in]; is {
		return n
	}
	rest := in.without(in.first())
	n := plainMost(l, rest, found)
	for b := range rest.all() {
		if l[in.first()].has(b) {
			n = max(n, 1+plainMost(l, rest.without(b), found))
		}
	}
	found[in] = n
	return n
}

// P8.2, P8.7: whatever items are alike, as many pairs grow as there can be (rings within rings among them).
func TestGrow(t *testing.T) {
	d := dice(11)
	for i := range 4000 {
		l := make(likes, d.from(1, 13))
		for range d.upTo(2*len(l) + 1) {
			a, b := d.upTo(len(l)), d.upTo(len(l))
			if a != b {
				l[a], l[b] = l[a].with(b), l[b].with(a)
			}
		}
		found := map[set]int{}
		if n, want := l.grow(l.items()), plainMost(l, l.items(), found); n != want {
			t.Fatal(i, l, n, want)
		}
		some := set(d.upTo(1<<len(l))) & l.items()
		if n, want := l.grow(some), plainMost(l, some, found); n != want {
			t.Fatal(i, l, some, n, want)
		}
	}
}

// P8.2, P8.7: the best pairing of more items is the first one, by how many pairs what is left could have.
func TestPairsInOrder(t *testing.T) {
	k := wideKind
	k.items = 15
	left := 0
	sortings(t, 12, 300, k, func(d *dice, s api.Sorting) {
		l, found := likesOf(s), map[set]int{}
		var want [][2]int
		for rest := l.items(); rest != 0; {
			a, most := rest.first(), plainMost(l, rest, found)
			rest = rest.without(a)
			for b := range rest.all() {
				if l[a].has(b) && 1+plainMost(l, rest.without(b), found) == most {
					want = append(want, [2]int{a, b})
					rest = rest.without(b)
					break
				}
			}
		}
		if got := pairsIn(t, s); !slices.Equal(got, want) {
			t.Error(got, want)
		}
		if len(want) > 1 && 2*len(want) < len(s.Items) {
			left++
		}
	})
	if left < 50 {
		t.Error(left)
	}
}
