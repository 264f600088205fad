package glass

import (
	"slices"
	"testing"

	"thermion/api"
)

// P5.1: CheckOven finds each error of a programme, and the first one if there are several; all functions of programmes return it.
func TestCheckOven(t *testing.T) {
	for i, c := range []struct {
		o    api.Oven
		want api.Errno
	}{
		{oven(300), api.OK}, {oven(0), api.OK}, {oven(2000), api.OK}, {oven(-1), api.ErrRange}, {oven(2001), api.ErrRange}, {api.Oven{Legs: []api.Leg{}}, api.OK},
		{oven(5, slices.Repeat([]api.Leg{leg(7, 7)}, 20)...), api.OK}, {oven(5, slices.Repeat([]api.Leg{leg(7, 7)}, 21)...), api.ErrFull}, {oven(5, make([]api.Leg, 21)...), api.ErrFull}, {oven(-1, make([]api.Leg, 21)...), api.ErrRange},
		{oven(5, leg(0, 1)), api.OK}, {oven(5, leg(2000, 2000)), api.OK}, {oven(5, leg(5, 0)), api.ErrRange}, {oven(5, leg(5, -1)), api.ErrRange}, {oven(5, leg(5, 2001)), api.ErrRange}, {oven(5, leg(-1, 5)), api.ErrRange}, {oven(5, leg(2001, 5)), api.ErrRange},
		{oven(5, leg(5, 5), leg(5, 0)), api.ErrRange}, {oven(5, leg(5, 5), leg(2001, 5)), api.ErrRange}, {oven(5, leg(5, 5), leg(5, 5)), api.OK},
	} {
		if e := CheckOven(c.o); e != c.want {
			t.Error(i, e)
		}
		l, a := Strain(stuffM(), 1, c.o)
		v, n, b := Judge(stuffM(), 1, c.o, api.MaxStrain)
		s, d := Text(c.o)
		if a != c.want || b != c.want || d != c.want || c.want != api.OK && (l != nil || v != 0 || n != 0 || s != "") {
			t.Error(i, l, a, v, n, b, s, d)
		}
	}
}

// P5.3: errors of walls, and their order.
func TestWallErrors(t *testing.T) {
	full := oven(5, make([]api.Leg, 21)...)
	for i, c := range []struct {
		thick         int
		o             api.Oven
		left          int
		strain, judge api.Errno
	}{
		{1, oven(300), 0, api.OK, api.OK}, {1000, oven(300), 1 << 40, api.OK, api.OK}, {0, oven(300), 0, api.ErrRange, api.ErrRange}, {-1, oven(300), 0, api.ErrRange, api.ErrRange}, {1001, oven(300), 0, api.ErrRange, api.ErrRange},
		{0, full, 0, api.ErrRange, api.ErrRange}, {1001, full, -1, api.ErrRange, api.ErrRange}, {1, full, 0, api.ErrFull, api.ErrFull}, {1, full, -1, api.ErrFull, api.ErrFull},
		{1, oven(300), -1, api.OK, api.ErrRange}, {1, oven(300), 1<<40 + 1, api.OK, api.ErrRange}, {1, oven(300, leg(299, 1)), -1, api.OK, api.ErrRange},
	} {
		l, e := Strain(stuffM(), c.thick, c.o)
		v, n, f := Judge(stuffM(), c.thick, c.o, c.left)
		if e != c.strain || f != c.judge || e != api.OK && l != nil || f != api.OK && (v != 0 || n != 0) {
			t.Error(i, l, e, v, n, f)
		}
	}
}

// easeful is a stuff in which all strain relaxes in each tick, so that there is none but that of the last one.
func easeful(grow api.Range) api.Stuff { return plainStuff(1000000, grow, one(1000000)) }

// P5.3: strains that were found by hand.
func TestStrain(t *testing.T) {
	// The zone of a tick is that of the heat with which it ends.
	edge := api.Stuff{Break: 1, Zones: []api.Zone{zone(0, one(100), none), zone(10, one(1000), one(1000000))}}
	most := plainStuff(1, one(100000), none)
	for i, c := range []struct {
		s     api.Stuff
		thick int
		o     api.Oven
		want  []api.Range
	}{
		{stuffG(), 100, oven(800, leg(700, 10), leg(300, 100)), []api.Range{of(399609, 399610), of(3999609, 4399610)}}, {stuffG(), 100, oven(800), nil}, {stuffG(), 100, oven(800, leg(800, 2000)), []api.Range{none}},
		// 310, 308, 306, 305, and 305, 306, 308, 310.
		{stuffM(), 1, oven(310, leg(305, 3)), []api.Range{one(475)}}, {stuffM(), 1, oven(305, leg(310, 3)), []api.Range{one(475)}}, {easeful(one(100)), 1, oven(310, leg(305, 3)), []api.Range{one(1)}}, {easeful(one(100)), 1, oven(305, leg(310, 3)), []api.Range{one(2)}},
		// 7, 6, 6, 5, 5: a heat is rounded down, also on the way down.
		{easeful(one(100)), 1, oven(7, leg(5, 4)), []api.Range{one(0)}}, {easeful(one(100)), 1, oven(7, leg(5, 4), leg(7, 4)), []api.Range{one(0), one(1)}}, {easeful(one(100)), 1, oven(1, leg(0, 2)), []api.Range{one(0)}}, {easeful(one(100)), 1, oven(0, leg(1, 2)), []api.Range{one(1)}},
		// A leg begins with the heat that the one before it ended with.
		{easeful(one(100)), 1, oven(0, leg(50, 1), leg(50, 1), leg(80, 1), leg(20, 1)), []api.Range{one(50), one(0), one(30), one(60)}}, {easeful(one(100)), 7, oven(0, leg(50, 1), leg(47, 1)), []api.Range{one(350), one(21)}},
		// 149 to 151 hundredths are 1 to 2; thick walls have more.
		{easeful(of(149, 151)), 1, oven(0, leg(1, 1)), []api.Range{of(1, 2)}}, {easeful(of(149, 151)), 10, oven(0, leg(1, 1)), []api.Range{of(14, 16)}}, {easeful(of(149, 151)), 100, oven(1, leg(0, 1)), []api.Range{of(149, 151)}}, {easeful(of(199, 200)), 1, oven(0, leg(1, 1)), []api.Range{of(1, 2)}}, {easeful(of(200, 201)), 1, oven(0, leg(1, 1)), []api.Range{of(2, 3)}}, {easeful(of(99, 99)), 1, oven(0, leg(1, 1)), []api.Range{of(0, 1)}}, {easeful(of(33, 34)), 1, oven(9, leg(6, 1)), []api.Range{of(0, 2)}},
		{edge, 1, oven(0, leg(9, 1)), []api.Range{one(9)}}, {edge, 1, oven(0, leg(10, 1)), []api.Range{one(100)}}, {edge, 1, oven(0, leg(9, 1), leg(10, 1), leg(9, 1)), []api.Range{one(9), one(10), one(11)}},
		// First strain relaxes, then some is added; of 10 a quarter to a third are 2 to 4, what is left of 6 to 8 is 4 to 6 then.
		{plainStuff(9, one(1000), of(250000, 333333)), 1, oven(0, leg(1, 1), leg(2, 1), leg(2, 1), leg(2, 1)), []api.Range{one(10), of(16, 18), of(10, 14), of(6, 11)}},
		{plainStuff(9, one(100000), none), 1000, oven(0, slices.Repeat([]api.Leg{leg(2000, 1), leg(0, 1)}, 10)...), steady(20, 2000000000)},
		{most, 1000, oven(0, slices.Repeat([]api.Leg{leg(2000, 1), leg(0, 1)}, 10)...), steady(20, 2000000000)},
	} {
		if l, e := Strain(c.s, c.thick, c.o); !slices.Equal(l, c.want) || e != api.OK {
			t.Error(i, l, e)
		}
	}
}

// steady returns the bounds of a strain that grows by so much in each of so many legs.
func steady(legs, each int) []api.Range {
	var l []api.Range
	for i := range legs {
		l = append(l, one(each*(i+1)))
	}
	return l
}

// P5.3: strains are those that one finds tick by tick.
func TestStrainIsThatOfTicks(t *testing.T) {
	walls(t, 4, 4000, func(d *dice, s api.Stuff, thick int, o api.Oven) {
		want := make([]api.Range, len(o.Legs))
		_, legs := plainHeats(o)
		for i, r := range plainStrains(s, thick, o) {
			want[legs[i]] = r
		}
		if l, e := Strain(s, thick, o); !slices.Equal(l, want) || e != api.OK {
			t.Error(l, want, e)
		}
	})
}

// P5.3: no programme brings a strain above MaxStrain, but one that had it would keep it; the bounds are those of walls.
func TestGreatestStrain(t *testing.T) {
	w := wall{plainStuff(1, of(0, 100000), none), 1000}
	z := zoneOf(w.stuff, 5)
	for i, c := range []struct{ r, want api.Range }{
		{one(1 << 40), one(1 << 40)}, {of(0, 1<<40), of(0, 1<<40)}, {none, none},
	} {
		if r := relaxed(c.r, z); r != c.want {
			t.Error(i, r)
		}
	}
	z.Relax = one(1000000)
	if r := relaxed(one(1<<40), z); r != none {
		t.Error(r)
	}
	z.Relax = of(1, 999999)
	if r := relaxed(one(1<<40), z); r != of(1<<40-(1<<40*999999+999999)/1000000, 1<<40-1<<40/1000000) {
		t.Error(r)
	}
	if r := capped(of(1<<40, 1<<40+1)); r != one(1<<40) {
		t.Error(r)
	}
	if r := capped(of(1<<40-1, 1<<40)); r != of(1<<40-1, 1<<40) {
		t.Error(r)
	}
	if r := capped(one(1<<40 + 5)); r != one(1<<40) {
		t.Error(r)
	}
}

// P5.3: verdicts on programmes that were found by hand, at the edges of limits.
func TestJudge(t *testing.T) {
	ten := plainStuff(10, one(100), none)             // each kelvin adds 1
	wide := plainStuff(10, of(100, 200), none)        // 1 to 2
	soft := plainStuff(10, of(100, 200), one(500000)) // of which half relaxes in each tick
	const most = 1 << 40
	for i, c := range []struct {
		s             api.Stuff
		thick         int
		o             api.Oven
		left          int
		verdict, tick int
	}{
		{stuffG(), 100, oven(800, leg(700, 10)), 399610, api.Sure, 0}, {stuffG(), 100, oven(800, leg(700, 10)), 399609, api.Unsure, 10}, {stuffG(), 100, oven(800, leg(700, 10)), 399608, api.Never, 10}, {stuffG(), 100, oven(600, leg(540, 1)), 0, api.Never, 1},
		{stuffG(), 100, oven(600), 0, api.Sure, 0}, {stuffG(), 100, oven(600, leg(600, 5)), 0, api.Sure, 0},
		{ten, 1, oven(0, leg(10, 10)), most, api.Sure, 0}, {ten, 1, oven(0, leg(11, 11)), most, api.Never, 11}, {ten, 1, oven(0, leg(12, 12)), most, api.Never, 11}, {ten, 1, oven(0, leg(10, 1)), most, api.Sure, 0}, {ten, 1, oven(0, leg(11, 1)), most, api.Never, 1},
		// What may be left counts after the last tick alone, and besides Break.
		{ten, 1, oven(0, leg(10, 10)), 10, api.Sure, 0}, {ten, 1, oven(0, leg(10, 10)), 9, api.Never, 10}, {ten, 1, oven(0, leg(5, 5), leg(10, 5)), 0, api.Never, 10}, {ten, 1, oven(0, leg(11, 11)), 11, api.Never, 11}, {ten, 1, oven(0, leg(11, 11)), 10, api.Never, 11}, {ten, 1, oven(0, leg(11, 1), leg(11, 1)), 0, api.Never, 1},
		{wide, 1, oven(0, leg(5, 5)), most, api.Sure, 0}, {wide, 1, oven(0, leg(6, 6)), most, api.Unsure, 6}, {wide, 1, oven(0, leg(10, 10)), most, api.Unsure, 6}, {wide, 1, oven(0, leg(11, 11)), most, api.Never, 11}, {wide, 1, oven(0, leg(5, 5)), 9, api.Unsure, 5}, {wide, 1, oven(0, leg(5, 5)), 5, api.Unsure, 5}, {wide, 1, oven(0, leg(5, 5)), 4, api.Never, 5}, {wide, 1, oven(0, leg(7, 7)), 6, api.Never, 7}, {wide, 1, oven(0, leg(7, 7)), 7, api.Unsure, 6}, {wide, 5, oven(0, leg(1, 1), leg(1, 1), leg(2, 1)), most, api.Unsure, 3}, {wide, 11, oven(0, leg(1, 1), leg(2, 1)), most, api.Never, 1},
		// Strain that is too much in between does not become right by relaxing.
		{soft, 1, oven(0, leg(5, 1), leg(5, 9)), 0, api.Unsure, 10}, {soft, 1, oven(0, leg(5, 1), leg(5, 3)), 2, api.Sure, 0}, {soft, 1, oven(0, leg(5, 1), leg(5, 3)), 1, api.Unsure, 4}, {soft, 1, oven(0, leg(6, 1), leg(6, 99)), 2, api.Unsure, 1}, {soft, 1, oven(0, leg(11, 1), leg(11, 99)), 2, api.Never, 1},
	} {
		if v, n := judged(t, c.s, c.thick, c.o, c.left); v != c.verdict || n != c.tick {
			t.Error(i, v, n)
		}
	}
}

// P5.3: verdicts are those that one has by looking at each tick; each verdict is met often.
func TestJudgeIsThatOfTicks(t *testing.T) {
	count := map[int]int{}
	walls(t, 5, 5000, func(d *dice, s api.Stuff, thick int, o api.Oven) {
		left := d.limit(s)
		v, n := judged(t, s, thick, o, left)
		if w, want := plainJudge(s, thick, o, left); v != w || n != want {
			t.Error(left, v, n, w, want)
		}
		count[v]++
	})
	if count[api.Sure] < 200 || count[api.Never] < 200 || count[api.Unsure] < 200 {
		t.Error(count)
	}
}

// P5.3: soaking, its errors and their order.
func TestSoak(t *testing.T) {
	slow := plainStuff(1, one(9), of(100, 100)) // of 10000 to 19999 one relaxes in a tick, or two
	each := plainStuff(1, one(9), of(0, 1))     // at most one relaxes in a tick
	for i, c := range []struct {
		s           api.Stuff
		r           api.Range
		heat, limit int
		want        api.Range
		e           api.Errno
	}{
		{stuffG(), of(100, 200), 800, 30, of(2, 3), api.OK}, {stuffG(), of(100, 200), 300, 150, of(0, 5001), api.OK}, {stuffG(), one(5), 300, 5, none, api.OK}, {stuffG(), one(6), 300, 5, one(5001), api.OK}, {stuffG(), one(1), 800, 0, of(1, 5001), api.OK}, {stuffG(), one(1 << 40), 800, 1 << 40, none, api.OK},
		// Of 5 2 or 3 relax: 2 or 3 are left, 1 or 2 then, 0 or 1 at last.
		{stuffG(), one(5), 700, 2, of(1, 2), api.OK}, {stuffG(), one(5), 700, 1, of(2, 3), api.OK}, {stuffG(), one(5), 700, 0, of(3, 5001), api.OK}, {stuffG(), one(5), 2000, 3, one(1), api.OK}, {stuffG(), one(5), 699, 3, one(5001), api.OK}, {stuffG(), of(0, 5), 700, 2, of(0, 2), api.OK}, {stuffG(), none, 700, 0, none, api.OK},
		{slow, of(0, 15000), 0, 10000, of(0, 5000), api.OK}, {slow, of(0, 15000), 0, 9999, of(0, 5001), api.OK}, {slow, of(0, 15001), 0, 10000, of(0, 5001), api.OK}, {slow, of(0, 14999), 0, 10000, of(0, 4999), api.OK}, {slow, of(0, 15001), 0, 10001, of(0, 5000), api.OK},
		{each, one(5000), 0, 0, of(5000, 5001), api.OK}, {each, one(5001), 0, 0, one(5001), api.OK}, {each, one(5001), 0, 1, of(5000, 5001), api.OK}, {each, one(9999), 0, 0, one(5001), api.OK}, {each, one(4999), 0, 0, of(4999, 5001), api.OK}, {each, of(7, 9), 0, 8, of(0, 5001), api.OK}, {each, of(7, 9), 0, 9, none, api.OK}, {each, of(7, 9), 0, 6, of(1, 5001), api.OK},
		{stuffG(), of(2, 1), 800, 0, none, api.ErrOrder}, {stuffG(), of(-1, -2), 800, 0, none, api.ErrRange}, {stuffG(), of(-1, 5), 800, 0, none, api.ErrRange}, {stuffG(), of(5, -1), 800, 0, none, api.ErrRange}, {stuffG(), of(0, 1<<40+1), 800, 0, none, api.ErrRange}, {stuffG(), of(1<<40+1, 0), 800, 0, none, api.ErrRange}, {stuffG(), of(0, 1<<40), 700, 1 << 39, of(0, 1), api.OK},
		{stuffG(), one(5), -1, 0, none, api.ErrRange}, {stuffG(), one(5), 2001, 0, none, api.ErrRange}, {stuffG(), one(5), 0, -1, none, api.ErrRange}, {stuffG(), one(5), 0, 1<<40 + 1, none, api.ErrRange}, {stuffG(), one(5), 0, 1 << 40, none, api.OK}, {stuffG(), of(2, 1), -1, -1, none, api.ErrOrder}, {stuffG(), of(2, 1), 2001, 0, none, api.ErrOrder},
	} {
		if r, e := Soak(c.s, c.r, c.heat, c.limit); r != c.want || e != c.e {
			t.Error(i, r, e)
		}
	}
}

// P5.3: soaking is what one finds tick by tick; that is what a programme that stays at a heat does with a strain.
func TestSoakIsThatOfTicks(t *testing.T) {
	stuffs(t, 6, 3000, func(d *dice, s api.Stuff) {
		r := d.any(0, []int{9, 1000, api.MaxStrain}[d.upTo(3)])
		heat := d.heat()
		limit := d.upTo(r.Hi + 1)
		z := plainZone(s, heat)
		want := one(api.MaxSoak + 1)
		lo, hi := r.Lo, r.Hi
		for n := range api.MaxSoak + 1 {
			if lo <= limit && want.Lo > n {
				want.Lo = n
			}
			if hi <= limit && want.Hi > n {
				want.Hi = n
			}
			lo, hi = lo-ceil(lo*z.Relax.Hi, 1000000), hi-floor(hi*z.Relax.Lo, 1000000)
		}
		if got, e := Soak(s, r, heat, limit); got != want || e != api.OK {
			t.Error(r, heat, limit, got, want, e)
		}
	})
}
