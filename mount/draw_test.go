package mount

import (
	"math"
	"slices"
	"testing"

	"thermion/api"
	"thermion/field"
)

// mountWith returns the mount of the examples with other bars.
func mountWith(b ...api.Bar) api.Mount {
	m := mountM()
	m.Bars = b
	return m
}

// P4.6: what is wrong with a mount, and what is not.
func TestCheckMount(t *testing.T) {
	sized := func(wide, high, zero int) api.Mount {
		return changed(mountM(), func(m *api.Mount) { m.Wide, m.High, m.Zero = wide, high, zero })
	}
	for i, c := range []struct {
		m    api.Mount
		want api.Errno
	}{
		{mountM(), api.OK},
		{changed(mountM(), func(m *api.Mount) { m.Chain.Points = 0 }), api.ErrRange},
		{changed(mountM(), func(m *api.Mount) { m.Chain.Links = nil }), api.ErrLoose},
		{changed(mountM(), func(m *api.Mount) { m.Chain = more(m.Chain, between(0, 1, one(9))) }), api.OK}, // no positions fit: that is looked at later
		{mountWith(), api.ErrShort},
		{mountWith(slices.Repeat(mountM().Bars, 12)...), api.OK},
		{mountWith(slices.Repeat(mountM().Bars, 13)...), api.ErrFull},
		{sized(1, 1, 0), api.OK}, {sized(16, 16, 16), api.OK}, {sized(4, 1, 4), api.OK}, {sized(4, 1, 0), api.OK},
		{sized(0, 1, 0), api.ErrRange}, {sized(17, 1, 0), api.ErrRange}, {sized(4, 0, 0), api.ErrRange}, {sized(4, 17, 0), api.ErrRange},
		{sized(4, 1, 5), api.ErrRange}, {sized(4, 1, -1), api.ErrRange},
		{mountWith(bar(6, 0, 1, 0, 0)), api.OK}, {mountWith(bar(7, 0, 1, 0, 0)), api.ErrRange}, {mountWith(bar(0, 0, 1, 0, 0)), api.ErrRange},
		{mountWith(bar(1, 2, 1, 0, 0)), api.ErrMissing}, {mountWith(bar(1, -1, 1, 0, 0)), api.ErrMissing},
		{mountWith(bar(1, 0, 2, 0, 0)), api.ErrMissing}, {mountWith(bar(1, 0, -1, 0, 0)), api.ErrMissing},
		{mountWith(bar(1, 1, 0, 0, 0)), api.OK}, {mountWith(bar(1, 1, 1, 0, 0)), api.OK}, // columns are looked at when it is drawn
		{mountWith(bar(1, 0, 1, 1, 0)), api.ErrOrder},
		{mountWith(bar(1, 0, 1, 0, 1)), api.ErrRange}, {mountWith(bar(1, 0, 1, 1, 1)), api.ErrRange}, {mountWith(bar(1, 0, 1, -1, 0)), api.ErrRange},
		{changed(mountWith(bar(1, 0, 1, 0, 15)), func(m *api.Mount) { m.High = 16 }), api.OK},
	} {
		if e := CheckMount(c.m); e != c.want {
			t.Error(i, e)
		}
		p, e1 := Draw(c.m, nil)
		l, e2 := All(c.m)
		if len(p.Cells)+len(l) > 0 && c.want != api.OK || c.want != api.OK && (e1 != c.want || e2 != c.want) || c.want == api.OK && e1 != api.ErrState {
			t.Error(i, e1, e2)
		}
	}
}

// P4.6, R1: of several errors of a mount the first one is returned.
func TestMountErrorOrder(t *testing.T) {
	all := mountWith(slices.Repeat([]api.Bar{bar(9, 9, 9, 1, 0)}, 13)...)
	for i, c := range []struct {
		change func(m *api.Mount)
		want   api.Errno
	}{
		{func(m *api.Mount) { m.Wide, m.Chain = 0, links(2) }, api.ErrLoose},
		{func(m *api.Mount) { m.Wide, m.Bars = 0, nil }, api.ErrShort},
		{func(m *api.Mount) { m.Wide = 0 }, api.ErrFull},
		{func(m *api.Mount) { m.Wide, m.Bars = 0, []api.Bar{bar(1, 9, 0, 0, 0)} }, api.ErrRange},
		{func(m *api.Mount) { m.High, m.Bars = 0, []api.Bar{bar(1, 9, 0, 0, 0)} }, api.ErrRange},
		{func(m *api.Mount) { m.Zero, m.Bars = -1, []api.Bar{bar(1, 9, 0, 0, 0)} }, api.ErrRange},
		{func(m *api.Mount) { m.Bars = []api.Bar{bar(9, 9, 0, 1, 0)} }, api.ErrRange},
		{func(m *api.Mount) { m.Bars = []api.Bar{bar(1, 9, 0, 1, 0)} }, api.ErrMissing},
		{func(m *api.Mount) { m.Bars = []api.Bar{bar(1, 0, 9, 1, 0)} }, api.ErrMissing},
		{func(m *api.Mount) { m.Bars = []api.Bar{bar(1, 0, 1, 9, 0)} }, api.ErrOrder},
		{func(m *api.Mount) { m.Bars = []api.Bar{bar(1, 0, 1, 0, 9), bar(1, 9, 9, 0, 0)} }, api.ErrRange}, // bar by bar
		{func(m *api.Mount) { m.Bars = []api.Bar{bar(1, 0, 9, 0, 0), bar(9, 0, 1, 0, 0)} }, api.ErrMissing},
		{func(m *api.Mount) { m.Bars = []api.Bar{bar(1, 0, 1, 0, 0), bar(9, 0, 1, 0, 0)} }, api.ErrRange},
		{func(m *api.Mount) { m.Bars = []api.Bar{bar(1, 0, 1, 0, 0), bar(2, 0, 1, 0, 0), bar(3, 0, 1, 1, 0)} }, api.ErrOrder},
	} {
		if e := CheckMount(changed(all, c.change)); e != c.want {
			t.Error(i, e)
		}
	}
}

// tri is a chain of three points with 1 and 2 between them.
func tri() api.Chain { return links(3, between(0, 1, one(1)), between(2, 1, one(-2))) }

// P4.6: plans that were drawn by hand.
func TestDraw(t *testing.T) {
	wide := api.Mount{Chain: tri(), Wide: 4, High: 3, Zero: 1, Round: true, Bars: []api.Bar{bar(2, 1, 2, 0, 1), bar(5, 0, 1, 1, 2), bar(2, 0, 2, 0, 0)}}
	two := changed(wide, func(m *api.Mount) { m.Bars = m.Bars[:2] })
	for i, c := range []struct {
		m    api.Mount
		at   []int
		want []int
		e    api.Errno
	}{
		{mountM(), []int{5, 7}, []int{0, 1, 1, 0}, api.OK},
		{mountM(), []int{5, 8}, []int{0, 1, 1, 1}, api.OK},
		{mountM(), []int{-2, 0}, []int{0, 1, 1, 0}, api.OK},
		{mountM(), []int{math.MinInt, math.MinInt + 3}, []int{0, 1, 1, 1}, api.OK},
		{mountM(), []int{math.MaxInt - 2, math.MaxInt}, []int{0, 1, 1, 0}, api.OK},
		{two, []int{0, 1, 3}, []int{0, 0, 2, 2, 0, 5, 2, 2, 0, 5, 0, 0}, api.OK},
		{changed(two, func(m *api.Mount) { m.Zero = 0 }), []int{9, 10, 12}, []int{0, 2, 2, 0, 5, 2, 2, 0, 5, 0, 0, 0}, api.OK},
		{mountM(), []int{5, 9}, nil, api.ErrState},
		{mountM(), []int{5, 6}, nil, api.ErrState},
		{mountM(), []int{5}, nil, api.ErrState},
		{mountM(), nil, nil, api.ErrState},
		{mountM(), []int{math.MaxInt, math.MinInt + 1}, nil, api.ErrState},
		{mountWith(bar(1, 1, 0, 0, 0)), []int{0, 2}, nil, api.ErrOrder},
		{mountWith(bar(1, 1, 1, 0, 0)), []int{0, 2}, nil, api.ErrOrder},
		{changed(mountM(), func(m *api.Mount) { m.Zero = 2 }), []int{0, 2}, []int{0, 0, 1, 1}, api.OK},
		{changed(mountM(), func(m *api.Mount) { m.Zero = 3 }), []int{0, 2}, nil, api.ErrRange}, // its right side
		{changed(mountM(), func(m *api.Mount) { m.Zero = 4 }), []int{0, 2}, nil, api.ErrRange},
		{changed(two, func(m *api.Mount) { m.Zero, m.Bars = 0, []api.Bar{bar(2, 0, 1, 0, 0)} }), []int{0, 1, 3}, []int{2, 0, 0, 0, 0, 0, 0, 0, 0, 0, 0, 0}, api.OK},
		{api.Mount{Chain: links(2, between(1, 0, one(1))), Wide: 2, High: 1, Bars: []api.Bar{bar(1, 1, 0, 0, 0)}}, []int{1, 0}, nil, api.ErrRange}, // its left side
		{api.Mount{Chain: links(2, between(1, 0, one(1))), Wide: 2, High: 1, Zero: 1, Bars: []api.Bar{bar(1, 1, 0, 0, 0)}}, []int{1, 0}, []int{1, 0}, api.OK},
		{wide, []int{0, 1, 3}, nil, api.ErrExists},
		{mountWith(bar(1, 0, 1, 0, 0), bar(1, 0, 1, 0, 0)), []int{0, 2}, nil, api.ErrExists}, // of the same electrode, too
		{changed(two, func(m *api.Mount) { m.Bars = []api.Bar{bar(2, 1, 2, 0, 1), bar(3, 0, 2, 2, 2)} }), []int{0, 1, 3}, []int{0, 0, 2, 2, 0, 0, 2, 2, 0, 3, 3, 3}, api.OK},
		{changed(two, func(m *api.Mount) { m.Bars = []api.Bar{bar(2, 1, 2, 0, 1), bar(3, 0, 2, 1, 2)} }), []int{0, 1, 3}, nil, api.ErrExists},
	} {
		p, e := Draw(c.m, c.at)
		if !slices.Equal(p.Cells, c.want) || e != c.e {
			t.Error(i, p, e)
		}
		if e == api.OK && (p.Wide != c.m.Wide || p.High != c.m.High || p.Round != c.m.Round) || e != api.OK && !field.Same(p, api.Plan{}) {
			t.Error(i, p)
		}
	}
}

// P4.6, R1: of several errors of a drawing the first one is returned, bar by bar.
func TestDrawErrorOrder(t *testing.T) {
	left, right := bar(1, 1, 0, 0, 0), bar(1, 0, 1, 0, 0) // with Zero 3 the right one leaves the plan
	for i, c := range []struct {
		m    api.Mount
		zero int
		at   []int
		want api.Errno
	}{
		{mountWith(left), 3, []int{0, 9}, api.ErrState},
		{mountWith(left, right), 3, []int{0, 2}, api.ErrOrder},
		{mountWith(right, left), 3, []int{0, 2}, api.ErrRange},
		{mountWith(right, right, left), 1, []int{0, 2}, api.ErrExists},
		{mountWith(right, left, right), 1, []int{0, 2}, api.ErrOrder},
		{mountWith(bar(1, 1, 1, 0, 0)), 4, []int{0, 2}, api.ErrOrder}, // also in a column that is none
	} {
		c.m.Zero = c.zero
		if p, e := Draw(c.m, c.at); p.Cells != nil || e != c.want {
			t.Error(i, p, e)
		}
	}
	// A bar that stands on one before it, and leaves the plan, leaves it.
	m := api.Mount{Chain: tri(), Wide: 3, High: 1, Zero: 1, Bars: []api.Bar{bar(1, 0, 1, 0, 0), bar(2, 0, 2, 0, 0)}}
	if p, e := Draw(m, []int{0, 1, 3}); p.Cells != nil || e != api.ErrRange {
		t.Error(p, e)
	}
}

// P4.6: the plans of all positions.
func TestAll(t *testing.T) {
	drawn := func(m api.Mount) [][]int {
		t.Helper()
		l, e := All(m)
		if e != api.OK {
			t.Fatal(m, e)
		}
		var cells [][]int
		for _, p := range l {
			if p.Wide != m.Wide || p.High != m.High || p.Round != m.Round {
				t.Error(p)
			}
			cells = append(cells, p.Cells)
		}
		return cells
	}
	if l := drawn(mountM()); !same(l, [][]int{{0, 1, 1, 0}, {0, 1, 1, 1}}) {
		t.Error(l)
	}
	// A point at which no bar ends makes plans that are equal, one for each of its positions.
	still := changed(mountM(), func(m *api.Mount) { m.Chain, m.Round = links(3, between(0, 1, one(2)), between(0, 2, of(1, 3))), true })
	if l := drawn(still); !same(l, [][]int{{0, 1, 1, 0}, {0, 1, 1, 0}, {0, 1, 1, 0}}) {
		t.Error(l)
	}
	most := changed(still, func(m *api.Mount) { m.Chain.Links = []api.Link{between(0, 1, one(2)), between(0, 2, of(1, 300))} })
	if l := drawn(most); len(l) != 300 {
		t.Error(len(l))
	}
	for i, c := range []struct {
		gap  []api.Range
		zero int
		bars []api.Bar
		want api.Errno
	}{
		{[]api.Range{of(1, 301)}, 1, mountM().Bars, api.ErrFull},
		{[]api.Range{of(1, 2), of(3, 4)}, 1, mountM().Bars, api.ErrClash},
		{[]api.Range{of(1, 4)}, 1, mountM().Bars, api.ErrRange}, // only the last one
		{[]api.Range{of(0, 1)}, 1, mountM().Bars, api.ErrOrder}, // only the first one
		{[]api.Range{of(0, 4)}, 1, mountM().Bars, api.ErrOrder}, // the first of both
		{[]api.Range{of(1, 4)}, 1, slices.Repeat(mountM().Bars, 2), api.ErrExists},
		{[]api.Range{of(0, 301)}, 1, slices.Repeat(mountM().Bars, 2), api.ErrFull},
	} {
		m := changed(mountWith(c.bars...), func(m *api.Mount) { m.Chain.Links, m.Zero = nil, c.zero })
		for _, g := range c.gap {
			m.Chain.Links = append(m.Chain.Links, between(0, 1, g))
		}
		if l, e := All(m); l != nil || e != c.want {
			t.Error(i, l, e)
		}
		m.Bars = []api.Bar{bar(1, 0, 2, 0, 0)} // what is wrong with a mount comes before all
		if l, e := All(m); l != nil || e != api.ErrMissing {
			t.Error(i, l, e)
		}
	}
}

// plainDraw asks for each cell of a plan which bars stand in it.
func plainDraw(m api.Mount, at []int) ([]int, api.Errno) {
	cells := make([]int, m.Wide*m.High)
	for _, b := range m.Bars {
		left, right := m.Zero+at[b.Left]-at[0], m.Zero+at[b.Right]-at[0]
		if left >= right {
			return nil, api.ErrOrder
		}
		for x := left; x < right; x++ {
			if x < 0 || x > m.Wide-1 {
				return nil, api.ErrRange
			}
		}
		for i, c := range cells {
			if row, x := i/m.Wide, i%m.Wide; b.Top <= row && row <= b.Bottom && left <= x && x < right {
				if c != 0 {
					return nil, api.ErrExists
				}
				cells[i] = b.Electrode
			}
		}
	}
	return cells, api.OK
}

// P4.6: Draw and All, and what is found cell by cell.
func TestDrawPlainly(t *testing.T) {
	d := dice(6)
	got := map[api.Errno]int{}
	for range 4000 {
		m := d.mount()
		places, e := Places(m.Chain)
		if e != api.OK {
			if l, e2 := All(m); l != nil || e2 != e {
				t.Fatal(m, l, e2)
			}
			continue
		}
		first := api.OK
		var want [][]int
		for _, at := range places {
			cells, e := plainDraw(m, at)
			p, e2 := Draw(m, at)
			if !slices.Equal(p.Cells, cells) || e2 != e {
				t.Fatal(m, at, p, cells, e, e2)
			}
			want = append(want, cells)
			if first == api.OK {
				first = e
			}
		}
		got[first]++
		l, e := All(m)
		if e != first || first != api.OK && l != nil || first == api.OK && !slices.EqualFunc(l, want, func(p api.Plan, cells []int) bool { return slices.Equal(p.Cells, cells) }) {
			t.Fatal(m, l, e, first)
		}
	}
	for _, e := range []api.Errno{api.OK, api.ErrOrder, api.ErrRange, api.ErrExists} {
		if got[e] < 20 {
			t.Error("too few cases", e, got[e])
		}
	}
}
