package glass

import (
	"slices"
	"testing"

	"thermion/api"
)

// P5.5: errors of coolings, and their order.
func TestFastestErrors(t *testing.T) {
	for i, c := range []struct {
		thick, from  int
		stops, paces []int
		left         int
		want         api.Errno
	}{
		{1, 0, []int{0}, []int{1}, 1 << 40, api.OK}, {1000, 2000, []int{2000, 2000, 2000, 2000}, []int{200, 1, 200, 1}, 0, api.OK}, {1, 5, []int{5}, []int{7, 7}, 0, api.OK},
		{0, 0, nil, nil, 0, api.ErrRange}, {1001, 0, nil, nil, 0, api.ErrRange}, {1, -1, nil, nil, 0, api.ErrRange}, {1, 2001, make([]int, 5), nil, 0, api.ErrRange},
		{1, 0, nil, []int{0}, -1, api.ErrShort}, {1, 0, []int{}, make([]int, 5), -1, api.ErrShort}, {1, 0, make([]int, 5), nil, -1, api.ErrFull}, {1, 0, []int{-1, 0, 0, 0, 0}, nil, 0, api.ErrFull},
		{1, 0, []int{-1}, nil, 0, api.ErrRange}, {1, 0, []int{2001}, make([]int, 5), 0, api.ErrRange}, {1, 0, []int{0, 0, 0, 2001}, nil, 0, api.ErrRange},
		{1, 0, []int{0}, nil, -1, api.ErrShort}, {1, 0, []int{0}, []int{}, 0, api.ErrShort}, {1, 0, []int{0}, make([]int, 5), -1, api.ErrFull}, {1, 0, []int{0}, []int{0}, 0, api.ErrRange}, {1, 0, []int{0}, []int{201}, 0, api.ErrRange}, {1, 0, []int{0}, []int{1, 1, 1, -1}, 0, api.ErrRange}, {1, 0, []int{0}, []int{200}, 0, api.OK},
		{1, 0, []int{0}, []int{1}, -1, api.ErrRange}, {1, 0, []int{0}, []int{1}, 1<<40 + 1, api.ErrRange}, {1000, 2000, []int{0}, []int{1}, -1, api.ErrRange}, {1000, 2000, []int{0}, []int{1}, 0, api.ErrMissing},
	} {
		l, n, e := Fastest(stuffM(), c.thick, c.from, c.stops, c.paces, c.left)
		if e != c.want || e != api.OK && (l != nil || n != 0) || e == api.OK && (len(l) != len(c.stops) || n == 0) {
			t.Error(i, l, n, e)
		}
	}
}

// P5.5: fastest coolings that were found by hand.
func TestFastest(t *testing.T) {
	// ten stands 10, of which each kelvin adds 1; below 50 all relaxes in each tick.
	ten := api.Stuff{Break: 10, Zones: []api.Zone{zone(0, one(100), one(1000000)), zone(50, one(100), none)}}
	soft := plainStuff(10, one(100), one(1000000))
	for i, c := range []struct {
		s            api.Stuff
		thick, from  int
		stops, paces []int
		left         int
		list         []int
		ticks        int
		e            api.Errno
	}{
		{stuffM(), 1, 310, []int{305, 300}, []int{1, 3}, 1000, []int{0, 0}, 2, api.OK}, {stuffM(), 1, 310, []int{305, 300}, []int{3, 1}, 1000, []int{1, 1}, 2, api.OK}, {stuffM(), 1, 310, []int{305, 300}, []int{1, 3}, 949, nil, 0, api.ErrMissing}, {stuffM(), 1, 310, []int{305, 300}, []int{1, 3}, 950, []int{0, 0}, 2, api.OK},
		{stuffG(), 100, 800, []int{700}, []int{1, 4, 20}, 500000, []int{2}, 20, api.OK}, {stuffG(), 100, 800, []int{700}, []int{20, 20}, 500000, []int{0}, 20, api.OK},
		// In doubt is not enough.
		{plainStuff(10, of(100, 200), none), 1, 10, []int{4}, []int{6}, 1 << 40, nil, 0, api.ErrMissing}, {plainStuff(10, of(100, 200), none), 1, 10, []int{5}, []int{6}, 1 << 40, []int{0}, 6, api.OK},
		// A leg of 20 kelvin needs 2 ticks, one of 30 3, one of none 1.
		{soft, 1, 100, []int{80}, []int{1, 2, 3}, 10, []int{1}, 2, api.OK}, {soft, 1, 100, []int{80}, []int{3, 2, 1}, 10, []int{1}, 2, api.OK}, {soft, 1, 100, []int{80}, []int{1}, 10, nil, 0, api.ErrMissing}, {soft, 1, 100, []int{80, 50}, []int{1, 2, 3}, 10, []int{1, 2}, 5, api.OK}, {soft, 1, 100, []int{70, 50}, []int{1, 2, 3}, 10, []int{2, 1}, 5, api.OK}, {soft, 1, 100, []int{70, 50, 50, 70}, []int{3, 1, 2}, 10, []int{0, 2, 1, 2}, 8, api.OK}, {soft, 1, 0, []int{20}, []int{1, 2}, 10, []int{1}, 2, api.OK},
		// What may be left counts after the last leg alone: 20 kelvin in 4 ticks are 5 in each.
		{soft, 1, 100, []int{80, 60}, []int{1, 2, 4}, 5, []int{1, 2}, 6, api.OK}, {soft, 1, 100, []int{80, 60}, []int{4, 2, 1}, 5, []int{1, 0}, 6, api.OK}, {soft, 1, 100, []int{80, 60}, []int{1, 2, 4}, 4, nil, 0, api.ErrMissing},
		// Of several that are as fast the first one is taken.
		{ten, 1, 60, []int{55, 50}, []int{2, 1, 1}, 10, []int{1, 1}, 2, api.OK}, {ten, 1, 60, []int{55, 50}, []int{1, 1}, 10, []int{0, 0}, 2, api.OK}, {ten, 1, 60, []int{49, 49}, []int{1, 2, 3}, 10, []int{1, 0}, 3, api.OK}, {ten, 1, 60, []int{50, 40, 30, 25}, []int{200, 1}, 5, []int{1, 1, 1, 1}, 4, api.OK}, {ten, 1, 60, []int{49}, []int{1}, 10, nil, 0, api.ErrMissing}, {ten, 1, 61, []int{50, 49}, []int{1, 200}, 10, nil, 0, api.ErrMissing},
	} {
		l, n, e := Fastest(c.s, c.thick, c.from, c.stops, c.paces, c.left)
		if !slices.Equal(l, c.list) || n != c.ticks || e != c.e {
			t.Error(i, l, n, e)
		}
	}
}

// plainFastest judges all lists of numbers of paces, in lexicographic order.
func plainFastest(s api.Stuff, thick, from int, stops, paces []int, left int) (best []int, ticks int) {
	all := [][]int{nil}
	for range stops {
		var longer [][]int
		for _, l := range all {
			for k := range paces {
				longer = append(longer, append(slices.Clone(l), k))
			}
		}
		all = longer
	}
	for _, l := range all {
		o, sum := oven(from), 0
		for i, k := range l {
			o.Legs = append(o.Legs, leg(stops[i], paces[k]))
			sum += paces[k]
		}
		if v, _ := plainJudge(s, thick, o, left); v == api.Sure && (best == nil || sum < ticks) {
			best, ticks = l, sum
		}
	}
	return best, ticks
}

// P5.5, P5.17: the fastest cooling is Sure, and no faster one, nor an earlier one as fast, is.
func TestFastestIsThatOfAll(t *testing.T) {
	found, quick := 0, 0
	stuffs(t, 8, 2500, func(d *dice, s api.Stuff) {
		thick, from := d.from(1, 30), d.heat()
		s.Break = d.from(1, 10*thick*s.Zones[0].Grow.Hi/100+3)
		var stops, paces []int
		for range d.from(1, 4) {
			stops = append(stops, max(0, from-d.upTo(90)))
		}
		for range d.from(1, 4) {
			paces = append(paces, d.from(1, []int{3, 20}[d.upTo(2)]))
		}
		left := []int{api.MaxStrain, s.Break, d.upTo(s.Break + 1)}[d.upTo(3)]
		want, sum := plainFastest(s, thick, from, stops, paces, left)
		l, n, e := Fastest(s, thick, from, stops, paces, left)
		if !slices.Equal(l, want) || n != sum || (e == api.OK) != (want != nil) || e != api.OK && e != api.ErrMissing {
			t.Error(thick, from, stops, paces, left, l, n, e, want)
		}
		if e != api.OK {
			return
		}
		found++
		if n == len(stops)*slices.Min(paces) {
			quick++
		}
		o := oven(from)
		for i, k := range l {
			o.Legs = append(o.Legs, leg(stops[i], paces[k]))
		}
		if v, _ := judged(t, s, thick, o, left); v != api.Sure {
			t.Error(o, left, v)
		}
	})
	if found < 300 || found-quick < 100 {
		t.Error(found, quick)
	}
}
