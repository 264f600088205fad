package cathode

import (
	"testing"

	"thermion/api"
)

// bands returns so many valid bands.
func bands(n int) []api.Band {
	var l []api.Band
	for i := range n {
		l = append(l, api.Band{From: 3 * i})
	}
	return l
}

// rangesOf returns the ranges of a coat of two bands, in the order in which they are checked; the first two and the four of each band.
func rangesOf(c *api.Coat) []*api.Range {
	a, b := &c.Bands[0], &c.Bands[1]
	return []*api.Range{&c.Aid, &c.Yield, &a.Convert, &a.Reduce, &a.Evaporate, &a.Sinter, &b.Convert, &b.Reduce, &b.Evaporate, &b.Sinter}
}

// P3.1: Check finds each error of a coat, and the first one if there are several; all functions of coats return it.
func TestCheck(t *testing.T) {
	for i, c := range []struct {
		change func(c *api.Coat)
		want   api.Errno
	}{
		{func(c *api.Coat) {}, api.OK},
		{func(c *api.Coat) { *c = api.Coat{Amount: 1, Slew: 1, Bands: bands(1)} }, api.OK},
		{func(c *api.Coat) { *c = api.Coat{} }, api.ErrRange},

		{func(c *api.Coat) { c.Amount = 0 }, api.ErrRange},
		{func(c *api.Coat) { c.Amount = 1000000 }, api.OK},
		{func(c *api.Coat) { c.Amount = 1000001 }, api.ErrRange},
		{func(c *api.Coat) { c.Slew = 0 }, api.ErrRange},
		{func(c *api.Coat) { c.Slew = 2000 }, api.OK},
		{func(c *api.Coat) { c.Slew = 2001 }, api.ErrRange},

		{func(c *api.Coat) { c.Bands = nil }, api.ErrShort},
		{func(c *api.Coat) { c.Bands = []api.Band{} }, api.ErrShort},
		{func(c *api.Coat) { c.Bands = bands(16) }, api.OK},
		{func(c *api.Coat) { c.Bands = bands(17) }, api.ErrFull},
		{func(c *api.Coat) { c.Bands[0].From = 5 }, api.ErrOrder},
		{func(c *api.Coat) { c.Bands[0].From = -1 }, api.ErrRange},
		{func(c *api.Coat) { c.Bands[0].From = 2001 }, api.ErrRange},
		{func(c *api.Coat) { c.Bands[1].From = 0 }, api.ErrOrder},
		{func(c *api.Coat) { c.Bands[1].From = -1 }, api.ErrRange},
		{func(c *api.Coat) { c.Bands[1].From = 1 }, api.OK},
		{func(c *api.Coat) { c.Bands[1].From = 2000 }, api.OK},
		{func(c *api.Coat) { c.Bands[1].From = 2001 }, api.ErrRange},
		{func(c *api.Coat) { c.Bands = append(c.Bands, api.Band{From: 1000}) }, api.ErrOrder},
		{func(c *api.Coat) { c.Bands = append(c.Bands, api.Band{From: 999}) }, api.ErrOrder},
		{func(c *api.Coat) { c.Bands = append(c.Bands, api.Band{From: 1001}) }, api.OK},

		// The first part with an error counts, whatever its error is.
		{func(c *api.Coat) { c.Slew, c.Aid = 0, of(2, 1) }, api.ErrRange},
		{func(c *api.Coat) { c.Amount, c.Bands = 0, nil }, api.ErrRange},
		{func(c *api.Coat) { c.Aid, c.Yield = of(2, 1), one(-1) }, api.ErrOrder},
		{func(c *api.Coat) { c.Aid, c.Yield = one(-1), of(2, 1) }, api.ErrRange},
		{func(c *api.Coat) { c.Yield, c.Bands = of(2, 1), nil }, api.ErrOrder},
		{func(c *api.Coat) { c.Yield, c.Bands = one(-1), bands(17) }, api.ErrRange},
		{func(c *api.Coat) { c.Bands = make([]api.Band, 17) }, api.ErrFull},
		{func(c *api.Coat) { c.Bands[0].From, c.Bands[0].Convert = 1, one(-1) }, api.ErrOrder},
		{func(c *api.Coat) { c.Bands[0].Sinter, c.Bands[1].From = of(2, 1), -1 }, api.ErrOrder},
		{func(c *api.Coat) { c.Bands[0].Sinter, c.Bands[1].From = one(-1), 0 }, api.ErrRange},
		{func(c *api.Coat) { c.Bands[1].From, c.Bands[1].Convert = 0, one(-1) }, api.ErrOrder},
		{func(c *api.Coat) { c.Bands[1].From, c.Bands[1].Convert = 2001, of(2, 1) }, api.ErrRange},
	} {
		checkAll(t, i, changed(coatK(), c.change), c.want)
	}
}

// P3.1: each range of a coat has both its errors before the next one.
func TestCheckRanges(t *testing.T) {
	count := len(rangesOf(new(coatK())))
	for i := range count {
		for _, c := range []struct {
			r    api.Range
			want api.Errno
		}{
			{of(0, 1000000), api.OK}, {one(1000000), api.OK}, {none, api.OK}, {of(-1, 0), api.ErrRange}, {of(0, -1), api.ErrRange}, {of(0, 1000001), api.ErrRange}, {of(1000001, 0), api.ErrRange},
			{of(2, 1), api.ErrOrder}, {of(1000000, 999999), api.ErrOrder}, {of(1000000, 0), api.ErrOrder},
		} {
			k := coatK()
			l := rangesOf(&k)
			*l[i] = c.r
			checkAll(t, i, k, c.want)
			if i+1 < count && c.want != api.OK {
				for _, r := range []api.Range{of(2, 1), one(-1)} {
					*l[i+1] = r
					checkAll(t, i, k, c.want)
				}
			}
		}
	}
}

// checkAll holds the errors of all functions with a coat against the one that is wanted, whatever the other arguments are.
func checkAll(t *testing.T, i int, c api.Coat, want api.Errno) {
	t.Helper()
	if e := Check(c); e != want {
		t.Error(i, c, e)
	}
	_, a := Fresh(c)
	_, b := Follow(c, nil)
	_, _, d := Judge(c, api.Demand{}, nil)
	if a != want || b != want || d != want || Possible(c, nil, []api.Mix{{Carbonate: c.Amount}}) != (want == api.OK) {
		t.Error(i, c, a, b, d)
	}
	if want == api.OK {
		return
	}
	bad := api.Coating{Heat: -1}
	_, l := Follow(c, []api.Heating{{}})
	_, m := Tick(c, bad, -1, -1)
	_, _, n := Judge(c, api.Demand{Gas: -1}, []api.Heating{{}})
	_, o := Emission(c, bad)
	_, p := Life(c, bad, -1, -1, -1)
	_, _, q := Shortest(c, api.Demand{Gas: -1}, nil, 0)
	if e := CheckCoating(c, bad); e != want || l != want || m != want || n != want || o != want || p != want || q != want {
		t.Error(i, c, e, l, m, n, o, p, q)
	}
}

// partsOf returns the ranges of a coating in the order in which they are checked.
func partsOf(x *api.Coating) []*api.Range {
	return []*api.Range{&x.Carbonate, &x.Oxide, &x.Barium, &x.Lost, &x.Gas, &x.Wear}
}

// P3.1: CheckCoating finds each error of a coating, and the first one if there are several; all functions of coatings return it.
func TestCheckCoating(t *testing.T) {
	wearAt := 5
	for i := range partsOf(new(api.Coating)) {
		most := 1000
		if i == wearAt {
			most = 1 << 40
		}
		for _, c := range []struct {
			r    api.Range
			want api.Errno
		}{
			{of(0, most), api.OK}, {one(most), api.OK}, {of(-1, 0), api.ErrRange}, {of(0, -1), api.ErrRange}, {of(0, most+1), api.ErrRange}, {of(most+1, most), api.ErrRange},
			{of(2, 1), api.ErrOrder}, {of(most, 0), api.ErrOrder},
		} {
			x := secondK()
			l := partsOf(&x)
			*l[i] = c.r
			checkCoatings(t, i, x, c.want)
			if c.want == api.OK {
				continue
			}
			if i < wearAt {
				for _, r := range []api.Range{of(2, 1), one(-1)} {
					*l[i+1] = r
					checkCoatings(t, i, x, c.want)
				}
			}
			x.Heat = -1
			checkCoatings(t, i, x, c.want)
		}
	}
	for heat, want := range map[int]api.Errno{0: api.OK, 2000: api.OK, -1: api.ErrRange, 2001: api.ErrRange} {
		x := secondK()
		x.Heat = heat
		checkCoatings(t, heat, x, want)
	}
}

// checkCoatings holds the errors of all functions with a coating against the one that is wanted.
func checkCoatings(t *testing.T, i int, x api.Coating, want api.Errno) {
	t.Helper()
	if e := CheckCoating(coatK(), x); e != want {
		t.Error(i, x, e)
	}
	_, a := Emission(coatK(), x)
	_, b := Life(coatK(), x, 0, 0, 0)
	if a != want || b != want {
		t.Error(i, x, a, b)
	}
	if want == api.OK {
		return
	}
	_, c := Tick(coatK(), x, -1, -1)
	_, d := Life(coatK(), x, -1, -1, -1)
	if c != want || d != want {
		t.Error(i, x, c, d)
	}
}

// P3.6: coats are the same if everything in them is equal.
func TestSame(t *testing.T) {
	for i, change := range []func(c *api.Coat){
		func(c *api.Coat) { c.Amount++ }, func(c *api.Coat) { c.Slew++ }, func(c *api.Coat) { c.Aid.Lo++ }, func(c *api.Coat) { c.Aid.Hi++ }, func(c *api.Coat) { c.Yield.Lo++ }, func(c *api.Coat) { c.Yield.Hi++ },
		func(c *api.Coat) { c.Bands[0].From++ }, func(c *api.Coat) { c.Bands[1].From++ }, func(c *api.Coat) { c.Bands[1].Convert.Lo++ }, func(c *api.Coat) { c.Bands[1].Reduce.Hi++ },
		func(c *api.Coat) { c.Bands[0].Evaporate.Lo++ }, func(c *api.Coat) { c.Bands[0].Sinter.Hi++ },
		func(c *api.Coat) { c.Bands = c.Bands[:1] }, func(c *api.Coat) { c.Bands = append(c.Bands, api.Band{}) }, func(c *api.Coat) { c.Bands = nil },
	} {
		k := changed(coatK(), change)
		if Same(k, coatK()) || Same(coatK(), k) || !Same(k, k) || !Same(Copy(k), k) {
			t.Error(i, k)
		}
	}
	if !Same(api.Coat{}, api.Coat{Bands: []api.Band{}}) || !Same(api.Coat{Bands: []api.Band{}}, api.Coat{}) || !Same(Copy(api.Coat{}), api.Coat{}) {
		t.Error("a nil list is not equal to an empty one")
	}
}

// P3.6, R4: a copy shares no memory with its coat, not even behind its end.
func TestCopy(t *testing.T) {
	k := coatK()
	k.Bands = append(make([]api.Band, 0, 9), k.Bands...)
	c := Copy(k)
	c.Bands[0].From, c.Bands[1].Sinter = 7, one(9)
	c.Bands = append(c.Bands, api.Band{From: 5})
	if !Same(k, coatK()) || k.Bands[:3][2] != (api.Band{}) {
		t.Error(k.Bands[:3])
	}
	empty := api.Coat{Bands: make([]api.Band, 0, 4)}
	c = Copy(empty)
	c.Bands = append(c.Bands, api.Band{From: 5})
	if empty.Bands[:1][0] != (api.Band{}) {
		t.Error("shared")
	}
}
