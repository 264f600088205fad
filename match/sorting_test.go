package match

import (
	"testing"

	"thermion/api"
)

// two returns a sorting of three items with two values.
func two() api.Sorting {
	return api.Sorting{Tol: []int{3, 0}, Items: [][]api.Range{{of(1, 2), one(5)}, {one(4), one(5)}, {one(4), of(5, 6)}}}
}

// P8.1: the errors of a sorting, each before those that come after it.
func TestErrorsOfSortings(t *testing.T) {
	inOrder(t, two, []fault[api.Sorting]{
		{func(s *api.Sorting) { s.Tol = nil }, api.ErrShort},
		{func(s *api.Sorting) { s.Tol = make([]int, 5) }, api.ErrFull},
	}, Check)
	inOrder(t, two, []fault[api.Sorting]{
		{func(s *api.Sorting) { s.Tol[0] = -1 }, api.ErrRange},
		{func(s *api.Sorting) { s.Tol[1] = 1000001 }, api.ErrRange},
		{func(s *api.Sorting) { s.Items = make([][]api.Range, 25) }, api.ErrFull},
	}, Check)
	inOrder(t, two, []fault[api.Sorting]{
		{func(s *api.Sorting) { s.Items[0] = []api.Range{of(2, 1)} }, api.ErrForm},
		{func(s *api.Sorting) { s.Items[1][0] = of(1000000002, 1000000001) }, api.ErrOrder},
		{func(s *api.Sorting) { s.Items[1][1] = of(0, 1000000001) }, api.ErrRange},
		{func(s *api.Sorting) { s.Items[2] = make([]api.Range, 3) }, api.ErrForm},
	}, Check)
	inOrder(t, two, []fault[api.Sorting]{
		{func(s *api.Sorting) { s.Items[0][0].Lo = -1000000001 }, api.ErrRange},
		{func(s *api.Sorting) { s.Items[0][1] = of(1, 0) }, api.ErrOrder},
		{func(s *api.Sorting) { s.Items[1] = nil }, api.ErrForm},
	}, Check)
	for i, c := range []struct {
		tol  []int
		want api.Errno
	}{{[]int{-1}, api.ErrRange}, {[]int{0, 0, 0, 0, -1}, api.ErrFull}, {[]int{0, -1 << 63}, api.ErrRange}, {[]int{1000001}, api.ErrRange}} { // before too many items
		if e := Check(api.Sorting{Tol: c.tol, Items: make([][]api.Range, 25)}); e != c.want {
			t.Error(i, e)
		}
	}
}

// P8.1: what is just valid.
func TestEdgesOfSortings(t *testing.T) {
	full := api.Sorting{Tol: []int{0, 1000000, 0, 1000000}}
	for range 24 {
		full.Items = append(full.Items, []api.Range{one(-1000000000), one(1000000000), of(-1000000000, 1000000000), {}})
	}
	for i, s := range []api.Sorting{two(), row(0), row(1000000, -1000000000, 1000000000), sortingS(), sortingQ(), full} {
		if e := Check(s); e != api.OK {
			t.Error(i, e)
		}
	}
}

// P8.1: items that are alike: the chapter's examples, and edges.
func TestAlike(t *testing.T) {
	wide := sortingS()
	wide.Items[0][0] = of(10, 13)
	for i, c := range []struct {
		s    api.Sorting
		a, b int
		want bool
	}{
		{sortingS(), 0, 2, true}, {sortingS(), 0, 3, false}, {sortingS(), 1, 1, false}, {wide, 0, 1, true},
		{sortingS(), 4, 3, true}, {sortingS(), 4, 5, false}, {sortingS(), -1, 0, false}, {sortingS(), 0, 5, false}, {sortingS(), 5, 5, false}, {sortingS(), 1 << 62, 0, false},
		{wide, 0, 3, false}, {wide, 3, 0, false}, // 14 less 10
		{two(), 0, 1, true}, {two(), 1, 2, false}, {two(), 0, 2, false}, // 6 less 5
		{row(0, 7, 7), 1, 0, true}, {row(0, 7, 8), 1, 0, false}, {row(1000000, 0, 1000000), 0, 1, true}, {row(1000000, 0, 1000001), 1, 0, false},
		{api.Sorting{Tol: []int{4}, Items: [][]api.Range{{of(0, 9)}, {of(4, 5)}}}, 0, 1, false}, {api.Sorting{Tol: []int{5}, Items: [][]api.Range{{of(0, 9)}, {of(4, 5)}}}, 0, 1, true}, // 9 less 4, and 5 less 0
		{row(-1, 7, 7), 0, 1, false}, {api.Sorting{}, 0, 1, false}, {api.Sorting{Tol: []int{1}, Items: [][]api.Range{{one(1)}, {one(1)}, {of(1, 0)}}}, 0, 1, false},
	} {
		if Alike(c.s, c.a, c.b) != c.want {
			t.Error(i)
		}
	}
}

// P8.1, P0: items are alike if, and only if, whatever their true values are, these differ by no more than the tolerances.
func TestAlikePlainly(t *testing.T) {
	count := map[bool]int{}
	sortings(t, 1, 2000, smallKind, func(d *dice, s api.Sorting) {
		for a := range s.Items {
			for b := range s.Items {
				is := Alike(s, a, b)
				if count[is]++; is != plainAlike(s, a, b) || is != Alike(s, b, a) {
					t.Error(a, b, is)
				}
			}
		}
	})
	if count[true] < 5000 || count[false] < 5000 {
		t.Error(count)
	}
}
