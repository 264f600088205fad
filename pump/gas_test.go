package pump

import (
	"testing"

	"thermion/api"
)

// gasX is gas that belongs to systemX.
func gasX() api.Gas {
	return api.Gas{Free: ranges(one(100), of(0, 5)), Bound: ranges(of(100, 200), none), Room: ranges(of(10, 20), of(0, 7)), Most: 300}
}

// gasFaults are the faults of gasX, in the order in which they are found.
func gasFaults() []fault[api.Gas] {
	return []fault[api.Gas]{
		{func(g *api.Gas) { g.Room = append(g.Room, none) }, api.ErrForm},
		{func(g *api.Gas) { g.Free[0] = of(1, 0) }, api.ErrOrder}, {func(g *api.Gas) { g.Free[1] = of(-1, 0) }, api.ErrRange}, {func(g *api.Gas) { g.Bound[0] = of(-1, -2) }, api.ErrOrder}, {func(g *api.Gas) { g.Bound[1] = of(0, 1<<36+1) }, api.ErrRange}, {func(g *api.Gas) { g.Room[0] = of(1<<36+2, 1<<36+1) }, api.ErrOrder}, {func(g *api.Gas) { g.Room[1] = one(1<<36 + 1) }, api.ErrRange}, {func(g *api.Gas) { g.Most = -1 }, api.ErrRange},
	}
}

// P6.1: Belongs finds each error of gas, and the first one if there are several; functions that take gas return it.
func TestBelongs(t *testing.T) {
	inOrder(t, gasX, gasFaults(), func(g api.Gas) api.Errno {
		e := Belongs(systemX(), g)
		// Tick's stage, Pressure's and Seal's vessel and limit are looked at later.
		x, a := Tick(systemX(), g, api.Bake{Ticks: -1, Shut: []int{-1}})
		r, b := Pressure(systemX(), g, 2)
		n, c := Seal(systemX(), g, 2, -1)
		if e != api.OK && (a != e || b != e || c != e) || e == api.OK && (a != api.ErrRange || b != api.ErrMissing || c != api.ErrMissing) {
			t.Error(g, e, a, b, c)
		}
		if !sameGas(x, api.Gas{}) || r != none || n != 0 {
			t.Error(g, x, r, n)
		}
		return e
	})
	for i, c := range []struct {
		change func(g *api.Gas)
		want   api.Errno
	}{
		{func(g *api.Gas) { *g = api.Gas{} }, api.ErrForm}, {func(g *api.Gas) { g.Free = g.Free[:1] }, api.ErrForm}, {func(g *api.Gas) { g.Bound = g.Bound[:1] }, api.ErrForm}, {func(g *api.Gas) { g.Room = g.Room[:1] }, api.ErrForm}, {func(g *api.Gas) { g.Free = append(g.Free, none) }, api.ErrForm}, {func(g *api.Gas) { g.Bound = append(g.Bound, none) }, api.ErrForm}, {func(g *api.Gas) { g.Free, g.Bound = ranges(none), ranges(none, none, none) }, api.ErrForm}, {func(g *api.Gas) { g.Free, g.Bound[0] = nil, of(1, 0) }, api.ErrForm}, {func(g *api.Gas) { g.Room, g.Free[0] = nil, of(1, 0) }, api.ErrForm},
		{func(g *api.Gas) { g.Free[1] = one(1 << 36) }, api.OK}, {func(g *api.Gas) { g.Bound[1] = of(0, 1<<36) }, api.OK}, {func(g *api.Gas) { g.Room[1] = one(1 << 36) }, api.OK}, {func(g *api.Gas) { g.Most = 1 << 36 }, api.OK}, {func(g *api.Gas) { g.Most = 1<<36 + 1 }, api.ErrRange}, {func(g *api.Gas) { g.Most = 0 }, api.OK}, {func(g *api.Gas) { g.Flashed = true }, api.OK}, {func(g *api.Gas) { g.Free[1] = one(-1) }, api.ErrRange}, {func(g *api.Gas) { g.Most, g.Room[1] = -1, of(1, 0) }, api.ErrOrder},
	} {
		if e := Belongs(systemX(), changed(gasX(), c.change)); e != c.want {
			t.Error(i, e)
		}
	}
	// A system without getters needs no room.
	for i, room := range [][]api.Range{nil, {}} {
		if e := Belongs(systemV(), api.Gas{Free: ranges(one(5)), Bound: ranges(none), Room: room}); e != api.OK {
			t.Error(i, e)
		}
	}
}

// P6.3: pressures that were found by hand, and errors with a vessel.
func TestPressure(t *testing.T) {
	for i, c := range []struct {
		free   api.Range
		volume int
		want   api.Range
	}{
		{one(1000), 10, one(100000)}, {one(125), 10, one(12500)}, {of(31, 32), 10, of(3100, 3200)}, {one(1000), 7, of(142857, 142858)}, {of(4, 6), 2, of(2000, 3000)}, {none, 3, none}, {one(1), 1000000, of(0, 1)}, {one(1), 1000, one(1)}, {one(1), 1001, of(0, 1)}, {one(1), 999, of(1, 2)}, {of(0, 1), 1, of(0, 1000)}, {one(1 << 36), 1, one(68719476736000)}, {one(1 << 36), 1000000, of(68719476, 68719477)}, {of(0, 1<<36), 999999, of(0, 68719546)},
	} {
		v := api.Vacuum{Vessels: []api.Vessel{{Volume: 5}, {Volume: c.volume}}}
		g := api.Gas{Free: ranges(one(3), c.free), Bound: ranges(one(777), one(888))}
		if r := pressed(t, v, g, 1); r != c.want {
			t.Error(i, r)
		}
		if r := pressed(t, v, g, 0); r != one(600) {
			t.Error(i, r)
		}
		for _, n := range []int{-1, 2, 1 << 40} {
			r, a := Pressure(v, g, n)
			said, b := Seal(v, g, n, -1)
			if a != api.ErrMissing || b != api.ErrMissing || r != none || said != 0 {
				t.Error(i, n, r, a, said, b)
			}
		}
	}
	systems(t, 3, 400, func(d *dice, v api.Vacuum, s kind) {
		g, n := d.gas(v, s), d.upTo(len(v.Vessels))
		if r, want := pressed(t, v, g, n), plainPressure(v, g, n); r != want {
			t.Error(g, n, r, want)
		}
	})
}

// P6.3: verdicts at the edges of limits, and errors with a limit.
func TestSeal(t *testing.T) {
	g := api.Gas{Free: ranges(one(100), of(4, 6)), Bound: ranges(of(100, 200), none), Room: ranges(of(10, 20))}
	for i, c := range []struct {
		vessel, limit int
		want          int
		e             api.Errno
	}{
		{0, 100000, api.Sure, api.OK}, {0, 99999, api.Never, api.OK}, {0, 0, api.Never, api.OK}, {0, 1 << 62, api.Sure, api.OK}, {1, 3000, api.Sure, api.OK}, {1, 3001, api.Sure, api.OK}, {1, 2999, api.Unsure, api.OK}, {1, 2000, api.Unsure, api.OK}, {1, 1999, api.Never, api.OK},
		{0, -1, 0, api.ErrRange}, {1, -1 << 62, 0, api.ErrRange}, {2, 5, 0, api.ErrMissing}, {-1, 5, 0, api.ErrMissing}, {2, -1, 0, api.ErrMissing},
	} {
		if n, e := Seal(systemW(), g, c.vessel, c.limit); n != c.want || e != c.e {
			t.Error(i, n, e)
		}
	}
	if n := sealed(t, systemW(), begun(t, systemW()), 1, 0); n != api.Sure {
		t.Error(n)
	}
	count := map[int]int{}
	systems(t, 4, 1000, func(d *dice, v api.Vacuum, s kind) {
		g, n := d.gas(v, s), d.upTo(len(v.Vessels))
		r := plainPressure(v, g, n)
		limit := max(0, d.of(of(r.Lo-1, r.Hi+1)))
		least, most := r.Lo <= limit, r.Hi <= limit
		want := map[bool]int{true: api.Sure, false: api.Never}[most]
		if least != most {
			want = api.Unsure
		}
		if said := sealed(t, v, g, n, limit); said != want {
			t.Error(g, n, limit, said, want)
		}
		count[want]++
	})
	if count[api.Sure] < 100 || count[api.Never] < 100 || count[api.Unsure] < 100 {
		t.Error(count)
	}
}
