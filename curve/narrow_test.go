package curve

import (
	"math"
	"testing"

	"thermion/api"
)

// at makes a reading.
func at(grid, plate, lo, hi int) api.Reading {
	return api.Reading{Grid: grid, Plate: plate, Current: of(lo, hi)}
}

// P2.2: laws that were narrowed by hand. (At 10000 and no plate voltage the root is 1,000,000, so that the space current is the perveance.)
func TestNarrow(t *testing.T) {
	for i, c := range []struct {
		l, want api.Law
		reads   []api.Reading
	}{
		{lawM(), lawM(), nil},
		{lawM(), lawM(), make([]api.Reading, 60)},
		{lawM(), changed(lawM(), func(l *api.Law) { l.Gain = of(19997, 20128) }), []api.Reading{at(-1000, 100000, 15000, 15178)}},
		{lawM(), lawM(), []api.Reading{at(-1000, 100000, math.MinInt, math.MaxInt)}},
		{lawM(), lawM(), []api.Reading{at(-1000, 100000, 13839, 16707)}},
		{
			changed(lawL(), func(l *api.Law) { l.Perv = of(50000, 70000) }), changed(lawL(), func(l *api.Law) { l.Perv = of(55000, 65000) }),
			[]api.Reading{at(10000, 0, 55000, 99999), at(10000, 0, 0, 65000)},
		},
		{
			changed(lawL(), func(l *api.Law) { l.Perv = of(50000, 70000) }), changed(lawL(), func(l *api.Law) { l.Perv = one(60001) }),
			[]api.Reading{at(10000, 0, 60001, 60001)},
		},
		{
			changed(lawL(), func(l *api.Law) { l.Shift = of(-10000, 1000) }), changed(lawL(), func(l *api.Law) { l.Shift = of(-10000, -9994) }),
			[]api.Reading{at(10000, 0, 0, 0)},
		},
		{
			changed(lawL(), func(l *api.Law) { l.Shift = of(-10000, 1000) }), changed(lawL(), func(l *api.Law) { l.Shift = of(0, 1000) }),
			[]api.Reading{at(10000, 0, 60000, 100000)},
		},
		// 60000 of the space current are no less than what is read, however much is full.
		{
			changed(lawL(), func(l *api.Law) { l.Full = of(100, 100000) }), changed(lawL(), func(l *api.Law) { l.Full = of(30000, 100000) }),
			[]api.Reading{at(10000, 0, 30000, 60000)},
		},
		{
			changed(lawL(), func(l *api.Law) { l.Full = of(100, 100000) }), changed(lawL(), func(l *api.Law) { l.Full = of(100, 30000) }),
			[]api.Reading{at(10000, 0, 0, 30000)},
		},
		{
			changed(lawL(), func(l *api.Law) { l.Part = of(100000, 900000) }), changed(lawL(), func(l *api.Law) { l.Part = of(499984, 550016) }),
			[]api.Reading{at(10000, 0, 30000, 33000), at(-10000, 0, 0, 0)},
		},
		// Perv is narrowed with the whole Part, then Part with the narrower Perv; the second reading finds both so.
		{
			changed(lawL(), func(l *api.Law) { l.Perv, l.Part = of(40000, 80000), of(500000, 1000000) }),
			changed(lawL(), func(l *api.Law) { l.Perv, l.Part = of(40000, 80000), of(500000, 1000000) }),
			[]api.Reading{at(10000, 0, 40000, 40000)},
		},
		{
			changed(lawL(), func(l *api.Law) { l.Perv, l.Part = of(40000, 80000), of(500000, 1000000) }),
			changed(lawL(), func(l *api.Law) { l.Perv, l.Part = of(60000, 80000), of(749988, 1000000) }),
			[]api.Reading{at(10000, 0, 60000, 80000)},
		},
	} {
		if l, e := Narrow(c.l, c.reads); l != c.want || e != api.OK {
			t.Error(i, l, e)
		}
	}
}

// P2.2: the errors of Narrow, in their order: all readings are looked at before one of them narrows.
func TestNarrowErrors(t *testing.T) {
	for i, c := range []struct {
		reads []api.Reading
		want  api.Errno
	}{
		{[]api.Reading{at(4000, 0, 15179, 15179)}, api.OK},
		{[]api.Reading{at(4000, 0, 15178, 15178)}, api.OK},
		{[]api.Reading{at(4000, 0, -9, 99999)}, api.OK},
		{[]api.Reading{at(4000, 0, 15180, 15190)}, api.ErrClash},
		{[]api.Reading{at(4000, 0, 0, 15177)}, api.ErrClash},
		{[]api.Reading{at(4000, 0, -9, -1)}, api.ErrClash},
		{[]api.Reading{at(0, 0, 0, 0), at(0, 0, 1, 1), at(0, 0, 0, 0)}, api.ErrClash},
		{[]api.Reading{at(4000, 0, 2, 1)}, api.ErrOrder},
		{[]api.Reading{at(4000, 0, 0, 1), at(4000, 0, 2, 1)}, api.ErrOrder},
		{[]api.Reading{at(4000, 0, 0, 1), at(4000, -1, 0, 0)}, api.ErrRange},
		{[]api.Reading{at(4000, 1000001, 0, 0)}, api.ErrRange},
		{[]api.Reading{at(1000001, 0, 0, 0)}, api.ErrRange},
		{[]api.Reading{at(-1000001, 0, 2, 1)}, api.ErrRange},
		{[]api.Reading{at(0, 0, 2, 1), at(-1000001, 0, 0, 0)}, api.ErrOrder},
		{make([]api.Reading, 61), api.ErrFull},
		{append(make([]api.Reading, 60), at(0, -1, 2, 1)), api.ErrFull},
	} {
		l, e := Narrow(lawL(), c.reads)
		if e != c.want || e == api.OK && l != lawL() || e != api.OK && l != (api.Law{}) {
			t.Error(i, l, e)
		}
		if l, e := Narrow(changed(lawL(), func(l *api.Law) { l.Part = of(2, 1) }), c.reads); e != api.ErrOrder || l != (api.Law{}) {
			t.Error(i, l, e)
		}
	}
	// A range in the middle may be the one that has no numbers left.
	l := changed(lawM(), func(l *api.Law) { l.Full = of(20000, 30000) })
	if l, e := Narrow(l, []api.Reading{at(-1000, 100000, 40000, 50000)}); e != api.ErrClash || l != (api.Law{}) {
		t.Error(l, e)
	}
}

// plainNarrow narrows a law by trying each number of each range. It reports whether numbers are left.
func plainNarrow(t *testing.T, l api.Law, reads []api.Reading) (api.Law, bool) {
	t.Helper()
	for _, r := range reads {
		for part := range 5 {
			var all []int
			place := placeOf(&l, part)
			was := *place
			for x := was.Lo; x <= was.Hi; x++ {
				*place = one(x)
				if c := ran(t, l, r.Grid, r.Plate); c.Lo <= r.Current.Hi && r.Current.Lo <= c.Hi {
					all = append(all, x)
				}
			}
			if len(all) == 0 {
				return api.Law{}, false
			}
			*place = of(all[0], all[len(all)-1])
			if place.Hi-place.Lo+1 != len(all) {
				t.Fatal("no range", l, r, all)
			}
		}
	}
	return l, true
}

// placeOf returns where a range of a law is.
func placeOf(l *api.Law, part int) *api.Range {
	switch part {
	case 0:
		return &l.Perv
	case 1:
		return &l.Gain
	case 2:
		return &l.Shift
	case 3:
		return &l.Full
	}
	return &l.Part
}

// smallLaw returns a law whose ranges have few numbers, but these are such that each of them counts.
func smallLaw(d *dice) api.Law {
	l := api.Law{Perv: d.near(100000, 100100, 40), Gain: d.near(90, 110, 20), Shift: d.near(-20, 20, 20), Full: d.near(90000, 100000, 30), Part: d.near(600000, 600100, 40)}
	switch d.upTo(4) {
	case 0: // the drive is little
		l.Perv, l.Part = d.near(999900, 1000000, 50), d.near(999900, 1000000, 50)
	case 1: // what is full counts
		l.Full, l.Part = d.near(50000, 50030, 30), d.near(999990, 1000000, 10)
	case 2: // what is not known is Perv and Part
		l.Gain, l.Shift, l.Full = one(100), one(0), one(100000)
	}
	return l
}

// readOf returns a reading with which numbers of a law agree, or nearly so.
func readOf(t *testing.T, d *dice, l api.Law) api.Reading {
	t.Helper()
	grid, plate := d.from(-30, 9000), d.from(0, 300)
	if d.upTo(3) == 0 {
		grid, plate = d.from(-40, 40), d.from(0, 30)
	}
	c := ran(t, l, grid, plate)
	c = d.in(of(c.Lo-d.upTo(3), c.Hi+d.upTo(3)))
	return at(grid, plate, c.Lo, c.Hi)
}

// P2.2: Narrow keeps the same numbers as trying them all.
func TestNarrowPlainly(t *testing.T) {
	d := dice(3)
	clashes, narrower := 0, [5]int{}
	for range 1500 {
		l := smallLaw(&d)
		var reads []api.Reading
		for range d.upTo(4) {
			reads = append(reads, readOf(t, &d, l))
		}
		want, ok := plainNarrow(t, l, reads)
		got, e := Narrow(l, reads)
		if got != want || (e == api.OK) != ok || e != api.OK && e != api.ErrClash {
			t.Fatal(l, reads, got, e, want)
		}
		if !ok {
			clashes++
			continue
		}
		for part := range 5 {
			if *placeOf(&got, part) != *placeOf(&l, part) {
				narrower[part]++
			}
		}
	}
	for _, n := range append(narrower[:], clashes) {
		if n < 20 {
			t.Error("too few cases", narrower, clashes)
		}
	}
}
