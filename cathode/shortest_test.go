package cathode

import (
	"slices"
	"sort"
	"testing"

	"thermion/api"
)

// easy is a demand that is kept once carbonate is at most 900; quick is a heating of a tick.
var (
	easy  = api.Demand{Gas: 1000, Wear: 9, Lost: 9, Rest: 900}
	quick = api.Heating{Ticks: 1, Heat: 1100}
)

// P3.5: errors of menus, and their order.
func TestShortestErrors(t *testing.T) {
	for i, c := range []struct {
		menu []api.Heating
		most int
		want api.Errno
	}{
		{[]api.Heating{hot}, 1, api.OK}, {[]api.Heating{hot}, 5, api.OK}, {times(4, hot), 5, api.OK}, {[]api.Heating{step(100, 1100, 0)}, 1, api.OK},
		{nil, 1, api.ErrShort}, {[]api.Heating{}, 0, api.ErrShort}, {times(5, hot), 1, api.ErrFull}, {times(5, wrongHeating), 0, api.ErrFull}, {times(41, hot), 1, api.ErrFull},
		{[]api.Heating{hot, wrongHeating}, 1, api.ErrRange}, {[]api.Heating{hot, step(1, 2001, 0)}, 1, api.ErrRange}, {[]api.Heating{hot, step(1, 0, 1001)}, 1, api.ErrRange}, {[]api.Heating{hot, step(2001, 0, 0)}, 1, api.ErrRange},
		{[]api.Heating{hot, step(101, 1100, 0)}, 1, api.ErrRange}, {[]api.Heating{step(101, 1100, 0), hot}, 1, api.ErrRange}, {[]api.Heating{step(2000, 1100, 0)}, 1, api.ErrRange},
		{[]api.Heating{hot}, 0, api.ErrRange}, {[]api.Heating{hot}, 6, api.ErrRange}, {[]api.Heating{hot}, -1, api.ErrRange}, {[]api.Heating{wrongHeating}, 0, api.ErrRange},
	} {
		d := easy
		d.Wear, d.Lost = 1<<40, 1<<40
		if l, n, e := Shortest(coatK(), d, c.menu, c.most); e != c.want || e != api.OK && (l != nil || n != 0) {
			t.Error(i, l, n, e)
		}
	}
}

// P3.5: shortest schedules that were found by hand.
func TestShortest(t *testing.T) {
	with := func(change func(d *api.Demand)) api.Demand { return changed(easy, change) }
	less := with(func(d *api.Demand) { d.Rest = 810 })
	cold, long := api.Heating{Ticks: 1, Heat: 300}, api.Heating{Ticks: 3, Heat: 1100}
	for i, c := range []struct {
		d     api.Demand
		menu  []api.Heating
		most  int
		list  []int
		ticks int
		e     api.Errno
	}{
		{easy, []api.Heating{quick, hot}, 3, []int{1}, 2, api.OK}, {easy, []api.Heating{quick}, 3, []int{0, 0}, 2, api.OK}, {easy, []api.Heating{quick}, 1, nil, 0, api.ErrMissing}, {easy, []api.Heating{hot, hot}, 2, []int{0}, 2, api.OK},
		{easy, []api.Heating{cold}, 5, nil, 0, api.ErrMissing}, {easy, []api.Heating{cold, long, quick}, 5, []int{2, 2}, 2, api.OK}, {easy, []api.Heating{cold, long, quick, hot}, 5, []int{3}, 2, api.OK}, {easy, []api.Heating{cold, long}, 1, []int{1}, 3, api.OK},
		// After three ticks carbonate is at most 810: by two and one, or one and two; the lesser numbers come first, whatever they stand for.
		{less, []api.Heating{quick, hot}, 3, []int{0, 1}, 3, api.OK}, {less, []api.Heating{hot, quick}, 3, []int{0, 1}, 3, api.OK}, {less, []api.Heating{quick, hot, long}, 3, []int{2}, 3, api.OK}, {less, []api.Heating{quick}, 5, []int{0, 0, 0}, 3, api.OK}, {less, []api.Heating{quick}, 2, nil, 0, api.ErrMissing},
		{with(func(d *api.Demand) { d.Gas, d.Rest = 199, 810 }), []api.Heating{quick, hot}, 3, nil, 0, api.ErrMissing},
		// A longer list is taken only if it has fewer ticks.
		{less, []api.Heating{step(4, 1100, 0), quick}, 5, []int{1, 1, 1}, 3, api.OK}, {less, []api.Heating{step(4, 1100, 0), quick}, 2, []int{0}, 4, api.OK}, {less, []api.Heating{step(5, 1100, 0), quick, hot}, 2, []int{1, 2}, 3, api.OK},
		// After five ticks carbonate is at most 657, after four 729.
		{with(func(d *api.Demand) { d.Rest = 657 }), []api.Heating{quick}, 5, []int{0, 0, 0, 0, 0}, 5, api.OK}, {with(func(d *api.Demand) { d.Rest = 656 }), []api.Heating{quick}, 5, nil, 0, api.ErrMissing}, {with(func(d *api.Demand) { d.Rest = 729 }), []api.Heating{quick}, 5, []int{0, 0, 0, 0}, 4, api.OK},
		{with(func(d *api.Demand) { d.Rest = 1000 }), []api.Heating{long, quick, cold}, 5, []int{1}, 1, api.OK}, {with(func(d *api.Demand) { d.Rest = 1000 }), []api.Heating{long, cold, quick}, 5, []int{1}, 1, api.OK},
	} {
		l, n, e := Shortest(coatK(), c.d, c.menu, c.most)
		if !slices.Equal(l, c.list) || n != c.ticks || e != c.e {
			t.Error(i, l, n, e)
		}
	}
}

// P3.5: lists are gone through whole: a greater number may have to come before a lesser one.
func TestShortestOrder(t *testing.T) {
	k := coatK()
	k.Slew, k.Bands = 2000, []api.Band{{}, {From: 1000, Convert: one(500000)}, {From: 1200, Reduce: one(500000), Sinter: one(5)}}
	reduces, converts := step(1, 1200, 0), step(1, 1000, 0)
	d := api.Demand{Gas: 500, Wear: 5, Rest: 500, Barium: 250}
	for i, c := range []struct {
		menu []api.Heating
		most int
		want []int
	}{
		{[]api.Heating{reduces, converts}, 2, []int{1, 0}}, {[]api.Heating{converts, reduces}, 5, []int{0, 1}}, {[]api.Heating{step(2, 1200, 0), reduces, converts}, 3, []int{2, 1}}, {[]api.Heating{reduces, step(1, 0, 0), step(1, 999, 0), converts}, 5, []int{3, 0}},
	} {
		if l, n, e := Shortest(k, d, c.menu, c.most); !slices.Equal(l, c.want) || n != 2 || e != api.OK {
			t.Error(i, l, n, e)
		}
	}
	// With still more barium two ticks have to convert before one reduces.
	d = api.Demand{Gas: 500, Wear: 5, Rest: 250, Barium: 375}
	if l, n, e := Shortest(k, d, []api.Heating{reduces, converts}, 4); !slices.Equal(l, []int{1, 1, 0}) || n != 3 || e != api.OK {
		t.Error(l, n, e)
	}
}

// P3.5, P3.14: the shortest schedule is the first one of all lists that are Sure, set in order.
func TestShortestOfAll(t *testing.T) {
	found := 0
	cases(t, 6, 500, func(d *dice, c api.Coat, l []api.Heating) {
		menu := append(d.schedule(3, 9), api.Heating{Ticks: d.from(1, 9), Heat: d.heat()})
		most, demand := d.from(1, 3), d.demand(c)
		all := plainLists(len(menu), most)
		sort.Slice(all, func(i, k int) bool {
			a, b := all[i], all[k]
			if n, m := ticksOf(menu, a), ticksOf(menu, b); n != m {
				return n < m
			}
			if len(a) != len(b) {
				return len(a) < len(b)
			}
			return slices.Compare(a, b) < 0
		})
		list, ticks, e := Shortest(c, demand, menu, most)
		for _, l := range all {
			var schedule []api.Heating
			for _, i := range l {
				schedule = append(schedule, menu[i])
			}
			if v, _ := judged(t, c, demand, schedule); v == api.Sure {
				if !slices.Equal(l, list) || ticks != ticksOf(menu, l) || e != api.OK {
					t.Error(menu, most, demand, l, list, ticks, e)
				}
				found++
				return
			}
		}
		if list != nil || ticks != 0 || e != api.ErrMissing {
			t.Error(menu, most, demand, list, ticks, e)
		}
	})
	if found < 50 {
		t.Error(found)
	}
}

// plainLists returns all lists of 1 to most numbers below count.
func plainLists(count, most int) [][]int {
	var all [][]int
	if most == 0 {
		return nil
	}
	for n := range count {
		all = append(all, []int{n})
		for _, l := range plainLists(count, most-1) {
			all = append(all, append([]int{n}, l...))
		}
	}
	return all
}

// ticksOf returns how many ticks the heatings of a menu have together.
func ticksOf(menu []api.Heating, list []int) int {
	n := 0
	for _, i := range list {
		n += menu[i].Ticks
	}
	return n
}
