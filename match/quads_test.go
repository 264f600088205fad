package match

import (
	"slices"
	"testing"

	"thermion/api"
)

// P8.3: the chapter's examples, and quads that were found by hand.
func TestQuads(t *testing.T) {
	for i, c := range []struct {
		s    api.Sorting
		want [][4]int
		e    api.Errno
	}{
		{sortingQ(), [][4]int{{0, 1, 2, 3}}, api.OK},
		{sortingS(), nil, api.OK},
		{row(1), nil, api.OK},
		{row(1, 1, 1, 1), nil, api.OK},
		{row(1, 1, 2, 1, 2), [][4]int{{0, 1, 2, 3}}, api.OK},
		{row(1, 1, 2, 3, 2), nil, api.OK}, // 0 is not alike to 2
		{row(0, 1, 2, 1, 2, 1, 2, 1, 2), [][4]int{{0, 2, 4, 6}, {1, 3, 5, 7}}, api.OK},
		{row(1, 5, 1, 1, 1, 2, 2), [][4]int{{1, 2, 3, 4}}, api.OK},                     // the first one is in none
		{row(1, 2, 1, 1, 1, 1, 3, 3, 3), [][4]int{{0, 5, 6, 7}, {1, 2, 3, 4}}, api.OK}, // 0 1 2 3 alone would be one
		{row(1, 2, 1, 1, 1, 3, 3, 3), [][4]int{{0, 1, 2, 3}}, api.OK},                  // 0 4 5 6 comes behind it
		{row(1, 2, 1, 1, 1, 1, 3, 3, 3, 9, 9, 9, 9), [][4]int{{0, 5, 6, 7}, {1, 2, 3, 4}, {8, 9, 10, 11}}, api.OK},
		{row(0, make([]int, 12)...), [][4]int{{0, 1, 2, 3}, {4, 5, 6, 7}, {8, 9, 10, 11}}, api.OK},
		{row(0, make([]int, 11)...), [][4]int{{0, 1, 2, 3}, {4, 5, 6, 7}}, api.OK},
		{row(0, make([]int, 13)...), nil, api.ErrOver},
		{row(0, make([]int, 24)...), nil, api.ErrOver},
		{row(0, make([]int, 25)...), nil, api.ErrFull},
		{row(-1, make([]int, 13)...), nil, api.ErrRange},
	} {
		if l, e := Quads(c.s); !slices.Equal(l, c.want) || e != c.e {
			t.Error(i, l, e)
		}
	}
}

// P8.3, P8.11: the first of all sets of quads with the most of them.
func TestQuadsPlainly(t *testing.T) {
	sizes := map[int]int{}
	for _, k := range []kind{{12, 1, 10, 0, 3}, {10, 2, 9, 2, 10}, {12, 3, 8, 1, 9}} {
		sortings(t, 20, 300, k, func(d *dice, s api.Sorting) {
			want := plainQuads(s)
			if l := quadsIn(t, s); !slices.Equal(l, want) {
				t.Error(l, want)
			}
			sizes[len(want)]++
		})
	}
	if sizes[0] < 100 || sizes[1] < 100 || sizes[2] < 80 || sizes[3] < 5 {
		t.Error(sizes)
	}
}

// P8.3: lists are in lexicographic order.
func TestIsBefore(t *testing.T) {
	l := [][]int{nil, {1}, {1, 2}, {1, 3}, {2}, {2, 0}}
	for i, a := range l {
		for k, b := range l {
			if isBefore(a, b) != (i < k) {
				t.Error(a, b)
			}
		}
	}
}
