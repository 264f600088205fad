package match

import (
	"slices"
	"testing"

	"thermion/api"
)

// P8.4: the chapter's examples, and bins that were filled by hand.
func TestBins(t *testing.T) {
	s := sortingS()
	broad := row(2, 10, 12)
	broad.Items[0][0] = of(11, 13)
	all := api.Bin{Want: []api.Range{of(-1<<63, 1<<63-1)}, Need: 24}
	needs := func(b api.Bin, n int) api.Bin { return changed(b, func(b *api.Bin) { b.Need = n }) }
	for i, c := range []struct {
		s                  api.Sorting
		bins               []api.Bin
		sort, fill, scarce []int
	}{
		{s, binsOf(1, 2), []int{0, 0, 0, 1, 1}, []int{0, 1, 1, -1, -1}, nil},
		{s, binsOf(4, 9), []int{0, 0, 0, 1, 1}, []int{0, 0, 0, 1, 1}, []int{0, 1}},
		{s, binsOf(3, 2), []int{0, 0, 0, 1, 1}, []int{0, 0, 0, 1, 1}, nil},
		{s, binsOf(2, 3), []int{0, 0, 0, 1, 1}, []int{0, 0, 1, 1, 1}, nil},
		{s, binsOf(3, 3), []int{0, 0, 0, 1, 1}, []int{0, 0, 0, 1, 1}, []int{0, 1}}, // either can do with one fewer
		{s, binsOf(4, 1), []int{0, 0, 0, 1, 1}, []int{0, 0, 0, 1, -1}, []int{0}},
		{s, binsOf(1, 5), []int{0, 0, 0, 1, 1}, []int{0, 1, 1, 1, 1}, []int{1}},
		{s, binsOf(2, 1), []int{0, 0, 0, 1, 1}, []int{0, 0, 1, -1, -1}, nil},
		{s, binsOf(0, 0), []int{0, 0, 0, 1, 1}, []int{-1, -1, -1, -1, -1}, nil},
		{s, nil, []int{-1, -1, -1, -1, -1}, []int{-1, -1, -1, -1, -1}, nil},
		{s, []api.Bin{all}, []int{0, 0, 0, 0, 0}, []int{0, 0, 0, 0, 0}, []int{0}},
		{s, slices.Repeat([]api.Bin{needs(all, 1)}, 8), []int{0, 0, 0, 0, 0}, []int{0, 1, 2, 3, 4}, []int{0, 1, 2, 3, 4, 5, 6, 7}},
		{s, slices.Repeat([]api.Bin{needs(all, 0)}, 8), []int{0, 0, 0, 0, 0}, []int{-1, -1, -1, -1, -1}, nil},
		{s, append(binsOf(3, 3), needs(all, 1)), []int{0, 0, 0, 1, 1}, []int{0, 0, 0, 1, 1}, []int{0, 1, 2}},
		{broad, binsOf(1, 1), []int{1, 0}, []int{1, 0}, nil}, // 13 does not lie in bin 0
		{row(0, 12, 10), binsOf(1, 1), []int{0, 0}, []int{1, 0}, nil},
		{row(0, 9, 16, 10), binsOf(1, 1), []int{-1, -1, 0}, []int{-1, -1, 0}, []int{1}},
		{row(0, 12, 12, 10), binsOf(1, 1), []int{0, 0, 0}, []int{0, 1, -1}, nil}, // of 1 0 and 0 1 the first one
		{row(0), binsOf(1, 0), nil, nil, []int{0}},
		{two(), []api.Bin{{Want: []api.Range{of(0, 4), one(5)}, Need: 2}, {Want: []api.Range{of(2, 9), of(5, 6)}, Need: 1}}, []int{0, 0, 1}, []int{0, 0, 1}, nil},
	} {
		a, e1 := Sort(c.s, c.bins)
		b, e2 := Fill(c.s, c.bins)
		d, e3 := Scarce(c.s, c.bins)
		if !slices.Equal(a, c.sort) || !slices.Equal(b, c.fill) || !slices.Equal(d, c.scarce) || e1 != api.OK || e2 != api.OK || e3 != api.OK {
			t.Error(i, a, b, d, e1, e2, e3)
		}
	}
}

// errorOfBins returns the error that Sort, Fill and Scarce have, which must be the same, and come alone.
func errorOfBins(t *testing.T, s api.Sorting, bins []api.Bin) api.Errno {
	t.Helper()
	a, e1 := Sort(s, bins)
	b, e2 := Fill(s, bins)
	c, e3 := Scarce(s, bins)
	if e1 != e2 || e1 != e3 || e1 != api.OK && (a != nil || b != nil || c != nil) {
		t.Error(a, b, c, e1, e2, e3)
	}
	return e1
}

// P8.4: the errors of bins, each before those that come after it; those of the sorting before all.
func TestErrorsOfBins(t *testing.T) {
	bins := func() []api.Bin {
		return []api.Bin{{Want: []api.Range{one(1), one(2)}, Need: 24}, {Want: []api.Range{of(-1<<63, 1<<63-1), one(1 << 62)}}}
	}
	check := func(l []api.Bin) api.Errno { return errorOfBins(t, two(), l) }
	inOrder(t, bins, []fault[[]api.Bin]{
		{func(l *[]api.Bin) { *l = make([]api.Bin, 9) }, api.ErrFull},
	}, check)
	inOrder(t, bins, []fault[[]api.Bin]{
		{func(l *[]api.Bin) { (*l)[0].Want = []api.Range{of(1, 0)} }, api.ErrForm},
		{func(l *[]api.Bin) { (*l)[0].Need = -1 }, api.ErrRange},
		{func(l *[]api.Bin) { (*l)[1].Want[1] = of(3, 2) }, api.ErrOrder},
		{func(l *[]api.Bin) { (*l)[1].Need = 25 }, api.ErrRange},
	}, check)
	inOrder(t, bins, []fault[[]api.Bin]{
		{func(l *[]api.Bin) { (*l)[0].Want[0] = of(1<<63-1, -1<<63) }, api.ErrOrder},
		{func(l *[]api.Bin) { (*l)[0].Need = 25 }, api.ErrRange},
		{func(l *[]api.Bin) { (*l)[1].Want = append((*l)[1].Want, one(3)) }, api.ErrForm},
	}, check)
	for i, l := range [][]api.Bin{nil, bins(), make([]api.Bin, 9), {{Need: -1}}} {
		if e := errorOfBins(t, row(-1, 1), l); e != api.ErrRange {
			t.Error(i, e)
		}
	}
	for i, l := range [][]api.Bin{slices.Repeat(bins(), 4), nil, bins()[:1]} {
		if e := check(l); e != api.OK {
			t.Error(i, e)
		}
	}
}

// P8.4, P8.12 (fillings): the first of all fillings with the most places; the bins that one of these leaves with an empty place.
func TestBinsPlainly(t *testing.T) {
	k := smallKind
	k.items, k.values = 6, 2
	scarceOnes, left := map[int]int{}, 0
	sortings(t, 30, 1500, k, func(d *dice, s api.Sorting) {
		bins := d.bins(s, k, 4, 3)
		l := filling(t, s, bins)
		all := plainFillings(s, bins)
		if !slices.Equal(l, all[0]) {
			t.Error(bins, l, all[0])
		}
		var want []int
		for b := range bins {
			if slices.ContainsFunc(all, func(l []int) bool { return took(l, b) < bins[b].Need }) {
				want = append(want, b)
			}
		}
		if l, e := Scarce(s, bins); !slices.Equal(l, want) || e != api.OK {
			t.Error(bins, l, want, e)
		}
		sorted, e := Sort(s, bins)
		for n, b := range sorted {
			if first := slices.IndexFunc(bins, func(x api.Bin) bool { return plainGoes(s, n, x) }); b != first || e != api.OK {
				t.Error(bins, n, b, first)
			}
		}
		scarceOnes[len(want)]++
		if !slices.Equal(l, sorted) {
			left++
		}
	})
	if scarceOnes[0] < 200 || scarceOnes[1] < 200 || scarceOnes[2] < 100 || left < 500 {
		t.Error(scarceOnes, left)
	}
}

// took returns how many items a bin got in a filling.
func took(l []int, bin int) int {
	n := 0
	for _, b := range l {
		if b == bin {
			n++
		}
	}
	return n
}
