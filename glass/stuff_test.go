package glass

import (
	"testing"

	"thermion/api"
)

// zonesOf returns so many valid zones.
func zonesOf(n int) []api.Zone {
	var l []api.Zone
	for i := range n {
		l = append(l, api.Zone{From: 3 * i})
	}
	return l
}

// rangesOf returns the ranges of a stuff of two zones, in the order in which they are checked.
func rangesOf(s *api.Stuff) []*api.Range {
	a, b := &s.Zones[0], &s.Zones[1]
	return []*api.Range{&a.Grow, &a.Relax, &b.Grow, &b.Relax}
}

// P5.1: Check finds each error of a stuff, and the first one if there are several; all functions of stuffs return it.
func TestCheck(t *testing.T) {
	for i, c := range []struct {
		change func(s *api.Stuff)
		want   api.Errno
	}{
		{func(s *api.Stuff) {}, api.OK},
		{func(s *api.Stuff) { *s = api.Stuff{Break: 1, Zones: zonesOf(1)} }, api.OK},
		{func(s *api.Stuff) { *s = api.Stuff{} }, api.ErrRange},

		{func(s *api.Stuff) { s.Break = 0 }, api.ErrRange},
		{func(s *api.Stuff) { s.Break = -1 }, api.ErrRange},
		{func(s *api.Stuff) { s.Break = 1000000000 }, api.OK},
		{func(s *api.Stuff) { s.Break = 1000000001 }, api.ErrRange},

		{func(s *api.Stuff) { s.Zones = nil }, api.ErrShort},
		{func(s *api.Stuff) { s.Zones = []api.Zone{} }, api.ErrShort},
		{func(s *api.Stuff) { s.Zones = zonesOf(16) }, api.OK},
		{func(s *api.Stuff) { s.Zones = zonesOf(17) }, api.ErrFull},
		{func(s *api.Stuff) { s.Zones[0].From = 1 }, api.ErrOrder},
		{func(s *api.Stuff) { s.Zones[0].From = -1 }, api.ErrRange},
		{func(s *api.Stuff) { s.Zones[0].From = 2001 }, api.ErrRange},
		{func(s *api.Stuff) { s.Zones[1].From = 0 }, api.ErrOrder},
		{func(s *api.Stuff) { s.Zones[1].From = -1 }, api.ErrRange},
		{func(s *api.Stuff) { s.Zones[1].From = 1 }, api.OK},
		{func(s *api.Stuff) { s.Zones[1].From = 2000 }, api.OK},
		{func(s *api.Stuff) { s.Zones[1].From = 2001 }, api.ErrRange},
		{func(s *api.Stuff) { s.Zones = append(s.Zones, zone(700, none, none)) }, api.ErrOrder},
		{func(s *api.Stuff) { s.Zones = append(s.Zones, zone(699, none, none)) }, api.ErrOrder},
		{func(s *api.Stuff) { s.Zones = append(s.Zones, zone(701, none, none)) }, api.OK},

		// The first part with an error counts, whatever its error is.
		{func(s *api.Stuff) { s.Break, s.Zones = 0, nil }, api.ErrRange},
		{func(s *api.Stuff) { s.Break, s.Zones = 0, zonesOf(17) }, api.ErrRange},
		{func(s *api.Stuff) { s.Zones = make([]api.Zone, 17) }, api.ErrFull},
		{func(s *api.Stuff) { s.Zones[0].From, s.Zones[0].Grow = 1, one(-1) }, api.ErrOrder},
		{func(s *api.Stuff) { s.Zones[0].From, s.Zones[0].Grow = -1, of(2, 1) }, api.ErrRange},
		{func(s *api.Stuff) { s.Zones[0].Relax, s.Zones[1].From = of(2, 1), -1 }, api.ErrOrder},
		{func(s *api.Stuff) { s.Zones[0].Relax, s.Zones[1].From = one(-1), 0 }, api.ErrRange},
		{func(s *api.Stuff) { s.Zones[1].From, s.Zones[1].Grow = 0, one(-1) }, api.ErrOrder},
		{func(s *api.Stuff) { s.Zones[1].From, s.Zones[1].Grow = 2001, of(2, 1) }, api.ErrRange},
	} {
		checkAll(t, i, changed(stuffG(), c.change), c.want)
	}
}

// P5.1: each range of a stuff has both its errors before the next one.
func TestCheckRanges(t *testing.T) {
	count := len(rangesOf(new(stuffG())))
	for i := range count {
		most := []int{100000, 1000000}[i%2]
		for _, c := range []struct {
			r    api.Range
			want api.Errno
		}{
			{of(0, most), api.OK}, {one(most), api.OK}, {none, api.OK}, {of(-1, 0), api.ErrRange}, {of(0, -1), api.ErrRange}, {of(0, most+1), api.ErrRange}, {of(most+1, 0), api.ErrRange},
			{of(2, 1), api.ErrOrder}, {of(most, most-1), api.ErrOrder}, {of(most, 0), api.ErrOrder},
		} {
			s := stuffG()
			l := rangesOf(&s)
			*l[i] = c.r
			checkAll(t, i, s, c.want)
			if i+1 < count && c.want != api.OK {
				for _, r := range []api.Range{of(2, 1), one(-1)} {
					*l[i+1] = r
					checkAll(t, i, s, c.want)
				}
			}
		}
	}
}

// checkAll holds the errors of all functions with a stuff against the one that is wanted, whatever the other arguments are.
func checkAll(t *testing.T, i int, s api.Stuff, want api.Errno) {
	t.Helper()
	if e := Check(s); e != want {
		t.Error(i, s, e)
	}
	_, a := Growth(s, 0, 2000)
	_, b := Mismatch(s, stuffM(), 0, 2000)
	_, c := Mismatch(stuffM(), s, 2000, 0)
	_, _, d := Seal(s, stuffM(), 5, 5)
	_, _, f := Seal(stuffM(), s, 5, 5)
	_, g := Matches([]api.Stuff{stuffM(), s}, stuffM(), 5, 5)
	_, h := Matches([]api.Stuff{stuffM()}, s, 5, 5)
	_, j := Strain(s, 1, oven(0))
	_, _, k := Judge(s, 1000, oven(2000), 0)
	_, l := Soak(s, none, 0, 0)
	_, _, m := Fastest(s, 1, 0, []int{0}, []int{1}, api.MaxStrain)
	for k, e := range []api.Errno{a, b, c, d, f, g, h, j, k, l, m} {
		if e != want {
			t.Error(i, k, s, e)
		}
	}
	if want == api.OK {
		return
	}
	bad := api.Stuff{Break: 1, Zones: make([]api.Zone, 17)}
	_, a = Growth(s, -1, -1)
	_, b = Mismatch(s, bad, -1, -1)
	_, c = Mismatch(stuffM(), s, -1, -1)
	_, _, d = Seal(s, bad, -1, -1)
	_, _, f = Seal(stuffM(), s, 5, 6)
	_, g = Matches([]api.Stuff{s, bad}, bad, -1, -1)
	_, h = Matches([]api.Stuff{stuffM(), bad}, s, -1, -1)
	_, j = Strain(s, 0, oven(-1))
	_, _, k = Judge(s, 0, oven(-1), -1)
	_, l = Soak(s, of(2, 1), -1, -1)
	_, _, m = Fastest(s, 0, -1, nil, nil, -1)
	for k, e := range []api.Errno{a, b, c, d, f, g, h, j, k, l, m} {
		if e != want {
			t.Error(i, k, s, e)
		}
	}
}

// P5.1: growths, and heats that there are not.
func TestGrowth(t *testing.T) {
	steps := api.Stuff{Break: 1, Zones: []api.Zone{zone(0, one(1), none), zone(1, of(10, 20), none), zone(3, one(100), none), zone(1999, one(1000), none), zone(2000, one(100000), none)}}
	for i, c := range []struct {
		s        api.Stuff
		from, to int
		want     api.Range
		e        api.Errno
	}{
		{stuffG(), 300, 302, of(18000, 20000), api.OK}, {stuffG(), 302, 300, of(-20000, -18000), api.OK}, {stuffG(), 699, 701, of(29000, 30000), api.OK}, {stuffG(), 701, 699, of(-30000, -29000), api.OK}, {stuffG(), 5, 5, none, api.OK},
		{stuffG(), 699, 700, of(9000, 10000), api.OK}, {stuffG(), 700, 701, one(20000), api.OK}, {stuffG(), 701, 700, one(-20000), api.OK}, {stuffG(), 0, 2000, of(700*9000+1300*20000, 700*10000+1300*20000), api.OK},
		{steps, 0, 1, one(1), api.OK}, {steps, 0, 2, of(11, 21), api.OK}, {steps, 1, 2, of(10, 20), api.OK}, {steps, 0, 4, of(121, 141), api.OK}, {steps, 2, 3, of(10, 20), api.OK}, {steps, 3, 2, of(-20, -10), api.OK}, {steps, 1, 4, of(120, 140), api.OK},
		// The heat 2000 itself never counts: no growth goes beyond it.
		{steps, 1998, 2000, one(1100), api.OK}, {steps, 2000, 1998, one(-1100), api.OK}, {steps, 2000, 2000, none, api.OK}, {steps, 0, 0, none, api.OK},
		{plainStuff(1, one(100000), none), 0, 2000, one(200000000), api.OK}, {plainStuff(1, of(0, 100000), none), 2000, 0, of(-200000000, 0), api.OK}, {plainStuff(1, none, none), 0, 2000, none, api.OK},
		{stuffG(), -1, 5, none, api.ErrRange}, {stuffG(), 5, -1, none, api.ErrRange}, {stuffG(), 2001, 5, none, api.ErrRange}, {stuffG(), 5, 2001, none, api.ErrRange}, {stuffG(), -1, -1, none, api.ErrRange}, {stuffG(), 2001, 2001, none, api.ErrRange},
	} {
		if r, e := Growth(c.s, c.from, c.to); r != c.want || e != c.e {
			t.Error(i, r, e)
		}
	}
}

// P5.1: growths are those that are added up kelvin by kelvin.
func TestGrowthIsTheSum(t *testing.T) {
	stuffs(t, 1, 2000, func(d *dice, s api.Stuff) {
		a, b := d.heat(), d.heat()
		if r, want := grown(t, s, a, b), plainGrowth(s, a, b); r != want {
			t.Error(a, b, r, want)
		}
	})
}
