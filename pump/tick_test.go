package pump

import (
	"slices"
	"testing"

	"thermion/api"
)

// stageFaults are the faults of a stage for a system with two pipes, which shuts both of them, in the order in which they are found.
func stageFaults() []fault[api.Bake] {
	return []fault[api.Bake]{
		{func(s *api.Bake) { s.Ticks = -1 }, api.ErrRange}, {func(s *api.Bake) { s.Heat = 2001 }, api.ErrRange}, {func(s *api.Bake) { s.Shut[0] = 2 }, api.ErrMissing}, {func(s *api.Bake) { s.Shut[1] = 0 }, api.ErrOrder}, {func(s *api.Bake) { s.Shut = append(s.Shut, -1) }, api.ErrMissing},
	}
}

// shutX returns a stage that shuts both pipes of systemX.
func shutX() api.Bake { return api.Bake{Ticks: 5, Heat: 600, Shut: []int{0, 1}, Flash: true} }

// P6.1: CheckStage finds each error of a stage, and the first one if there are several; functions that take stages return it.
func TestCheckStage(t *testing.T) {
	inOrder(t, shutX, stageFaults(), func(s api.Bake) api.Errno {
		e := CheckStage(systemX(), s)
		g, a := Tick(systemX(), gasX(), s)
		x, b := Run(systemX(), []api.Bake{s})
		n, c := Peak(systemX(), []api.Bake{{}, s}, 0)
		m, d := Hold(systemX(), []api.Bake{s, {}}, 0, 1<<40)
		if a != e || b != e || c != e || d != e || e != api.OK && (!sameGas(g, api.Gas{}) || !sameGas(x, api.Gas{}) || n != 0 || m != 0) {
			t.Error(s, e, a, b, c, d, g, x, n, m)
		}
		return e
	})
	for i, c := range []struct {
		v    api.Vacuum
		s    api.Bake
		want api.Errno
	}{
		{systemX(), api.Bake{}, api.OK}, {systemX(), api.Bake{Ticks: 2000, Heat: 2000}, api.OK}, {systemX(), api.Bake{Ticks: 2001}, api.ErrRange}, {systemX(), api.Bake{Heat: -1}, api.ErrRange}, {systemX(), api.Bake{Heat: -1, Shut: []int{7}}, api.ErrRange}, {systemX(), api.Bake{Shut: []int{}}, api.OK},
		{systemX(), api.Bake{Shut: []int{1}}, api.OK}, {systemX(), api.Bake{Shut: []int{0, 1}}, api.OK}, {systemX(), api.Bake{Shut: []int{-1}}, api.ErrMissing}, {systemX(), api.Bake{Shut: []int{2}}, api.ErrMissing}, {systemX(), api.Bake{Shut: []int{1, 0}}, api.ErrOrder}, {systemX(), api.Bake{Shut: []int{1, 1}}, api.ErrOrder}, {systemX(), api.Bake{Shut: []int{0, 0, 7}}, api.ErrOrder}, {systemX(), api.Bake{Shut: []int{0, 7, 0}}, api.ErrMissing}, {systemX(), api.Bake{Shut: []int{1, -1}}, api.ErrMissing},
		{systemV(), api.Bake{}, api.OK}, {systemV(), api.Bake{Shut: []int{0}}, api.ErrMissing}, {systemW(), api.Bake{Shut: []int{0}}, api.OK}, {systemW(), api.Bake{Shut: []int{1}}, api.ErrMissing},
	} {
		if e := CheckStage(c.v, c.s); e != c.want {
			t.Error(i, e)
		}
	}
}

// P6.2: the chapter's ticks, from the beginning on and from other gas.
func TestTick(t *testing.T) {
	free, bound, room := ranges(one(100), none), ranges(of(100, 200), none), ranges(of(10, 20))
	for i, c := range []struct {
		s    api.Bake
		want api.Gas
	}{
		{api.Bake{}, api.Gas{Free: ranges(of(50, 60), of(41, 52)), Bound: bound, Room: room}},
		{api.Bake{Ticks: 2000, Heat: 499}, api.Gas{Free: ranges(of(50, 60), of(41, 52)), Bound: bound, Room: room}}, // whatever its Ticks are
		{api.Bake{Heat: 500}, api.Gas{Free: ranges(of(55, 84), of(45, 72)), Bound: ranges(of(80, 180), none), Room: room}},
		{api.Bake{Flash: true}, api.Gas{Free: ranges(of(50, 60), of(21, 42)), Bound: bound, Room: ranges(none), Flashed: true}},
		{api.Bake{Shut: []int{0}}, api.Gas{Free: ranges(one(100), of(1, 2)), Bound: bound, Room: room}},
		{api.Bake{Shut: []int{0}, Flash: true}, api.Gas{Free: ranges(one(100), of(0, 1)), Bound: bound, Room: ranges(of(9, 20)), Flashed: true}},
		{api.Bake{Heat: 2000, Shut: []int{0}}, api.Gas{Free: ranges(of(110, 140), of(1, 2)), Bound: ranges(of(80, 180), none), Room: room}},
	} {
		g := api.Gas{Free: free, Bound: bound, Room: room, Most: 300}
		c.want.Most = 302
		if x := ticked(t, systemW(), g, c.s); !sameGas(x, c.want) {
			t.Error(i, x)
		}
	}
	// What was flashed once stays so.
	g := begun(t, systemW())
	g.Flashed = true
	if x := ticked(t, systemW(), g, api.Bake{}); !sameGas(x, api.Gas{Free: ranges(of(50, 60), of(21, 42)), Bound: bound, Room: ranges(none), Most: 302, Flashed: true}) {
		t.Error(x)
	}
}

// alone is a system of a vessel.
func alone(free, bound api.Range, bands ...api.Release) api.Vacuum {
	return api.Vacuum{Vessels: []api.Vessel{{Volume: 1, Free: free, Bound: bound, Bands: bands}}}
}

// P6.2 (release): the last band that is not above the heat counts; what is set free, and what stays bound, are rounded outwards.
func TestRelease(t *testing.T) {
	two := []api.Release{band(100, of(100000, 200000)), band(700, of(300000, 400000))}
	for i, c := range []struct {
		bound       api.Range
		bands       []api.Release
		heat        int
		free, after api.Range
	}{
		{one(100), nil, 2000, one(5), one(100)}, {one(100), two, 99, one(5), one(100)}, {one(100), two, 100, of(15, 25), of(80, 90)}, {one(100), two, 699, of(15, 25), of(80, 90)}, {one(100), two, 700, of(35, 45), of(60, 70)}, {one(100), two, 2000, of(35, 45), of(60, 70)}, {of(10, 100), two, 700, of(8, 45), of(6, 70)},
		{one(101), two, 100, of(15, 26), of(80, 91)}, {one(109), two, 100, of(15, 27), of(87, 99)}, {one(1), two, 100, of(5, 6), of(0, 1)}, {none, two, 100, one(5), none}, {one(7), []api.Release{band(0, one(500000))}, 0, of(8, 9), of(3, 4)}, {one(7), []api.Release{band(0, one(1000000))}, 0, one(12), none}, {one(7), []api.Release{band(0, of(0, 1000000))}, 0, of(5, 12), of(0, 7)}, {one(7), []api.Release{band(0, none)}, 0, one(5), one(7)}, {one(7), []api.Release{band(2000, one(1000000))}, 1999, one(5), one(7)}, {one(1000000000), []api.Release{band(2000, one(1))}, 2000, one(1005), one(999999000)},
	} {
		v := alone(one(5), c.bound, c.bands...)
		g := begun(t, v)
		g.Most = 1 << 36
		if x := ticked(t, v, g, api.Bake{Heat: c.heat}); x.Free[0] != c.free || x.Bound[0] != c.after {
			t.Error(i, x)
		}
	}
	// Each vessel has its own bands; what was set free flows in the same tick.
	v := api.Vacuum{
		Vessels: []api.Vessel{{Volume: 1, Bound: one(100), Bands: two[:1]}, {Volume: 1, Bound: one(100), Bands: two[1:]}, {Volume: 1, Bound: one(100)}},
		Pumps:   []api.Pump{{At: 0, Part: one(500000)}},
	}
	if x := ran(t, v, []api.Bake{{Ticks: 1, Heat: 800}}); !slices.Equal(x.Free, ranges(of(5, 10), of(30, 40), none)) || !slices.Equal(x.Bound, ranges(of(80, 90), of(60, 70), one(100))) {
		t.Error(x)
	}
}

// P6.2 (flow): what goes out, comes in and leaks in; one rounding for all of it.
func TestFlow(t *testing.T) {
	third, tenth := of(333333, 333334), one(100000)
	vessels := func(free ...api.Range) []api.Vessel {
		var l []api.Vessel
		for _, r := range free {
			l = append(l, api.Vessel{Volume: 1, Free: r})
		}
		return l
	}
	for i, c := range []struct {
		v    api.Vacuum
		shut []int
		want []api.Range
	}{
		{api.Vacuum{Vessels: vessels(one(10))}, nil, ranges(one(10))}, {api.Vacuum{Vessels: vessels(of(3, 10)), Pumps: []api.Pump{{Part: tenth}}}, nil, ranges(of(2, 9))}, {api.Vacuum{Vessels: vessels(of(3, 11)), Pumps: []api.Pump{{Part: of(100000, 500000)}}}, nil, ranges(of(1, 10))}, {api.Vacuum{Vessels: vessels(of(3, 11)), Pumps: []api.Pump{{Part: tenth}, {Part: of(0, 400000)}}}, nil, ranges(of(1, 10))}, {api.Vacuum{Vessels: vessels(one(9)), Pumps: []api.Pump{{Part: one(1000000)}}}, nil, ranges(none)}, {api.Vacuum{Vessels: vessels(one(9)), Pumps: []api.Pump{{Part: of(0, 1000000)}}}, nil, ranges(of(0, 9))},
		// 10 less a tenth, and 20 less three tenths, of which two go to the first vessel and one goes out.
		{api.Vacuum{Vessels: vessels(one(10), one(20)), Pipes: []api.Pipe{pipe(0, 1, tenth, one(200000))}, Pumps: []api.Pump{{At: 1, Part: tenth}}}, nil, ranges(one(13), one(15))}, {api.Vacuum{Vessels: vessels(one(10), one(20)), Pipes: []api.Pipe{pipe(1, 0, one(200000), tenth)}, Pumps: []api.Pump{{At: 1, Part: tenth}}}, nil, ranges(one(13), one(15))}, {api.Vacuum{Vessels: vessels(one(10), one(20)), Pipes: []api.Pipe{pipe(0, 1, tenth, one(200000))}, Pumps: []api.Pump{{At: 1, Part: tenth}}}, []int{0}, ranges(one(10), one(18))},
		// Two pipes between two vessels count both; each can be shut by itself.
		{api.Vacuum{Vessels: vessels(one(10), one(20)), Pipes: []api.Pipe{pipe(0, 1, tenth, none), pipe(1, 0, one(200000), one(300000))}}, nil, ranges(one(10), one(20))}, {api.Vacuum{Vessels: vessels(one(10), one(20)), Pipes: []api.Pipe{pipe(0, 1, tenth, none), pipe(1, 0, one(200000), one(300000))}}, []int{0}, ranges(one(11), one(19))}, {api.Vacuum{Vessels: vessels(one(10), one(20)), Pipes: []api.Pipe{pipe(0, 1, tenth, none), pipe(1, 0, one(200000), one(300000))}}, []int{1}, ranges(one(9), one(21))}, {api.Vacuum{Vessels: vessels(one(10), one(20)), Pipes: []api.Pipe{pipe(0, 1, tenth, none), pipe(1, 0, one(200000), one(300000))}}, []int{0, 1}, ranges(one(10), one(20))},
		// Three times a third of 1 is rounded once: 0.999999 to 1.000002.
		{api.Vacuum{Vessels: vessels(one(1), one(1), one(1), none), Pipes: []api.Pipe{pipe(0, 3, third, none), pipe(1, 3, third, none), pipe(3, 2, none, third)}}, nil, ranges(of(0, 1), of(0, 1), of(0, 1), of(0, 2))}, {api.Vacuum{Vessels: vessels(of(3, 6), one(3), one(3), none), Pipes: []api.Pipe{pipe(0, 3, one(333334), none), pipe(1, 3, one(333334), none), pipe(3, 2, none, one(333334))}}, nil, ranges(of(1, 4), of(1, 2), of(1, 2), of(3, 5))}, {api.Vacuum{Vessels: vessels(one(15), one(15), one(20)), Pipes: []api.Pipe{pipe(0, 2, tenth, none), pipe(1, 2, tenth, tenth)}}, nil, ranges(of(13, 14), of(15, 16), one(21))},
		// What flows is what there was before the flow.
		{api.Vacuum{Vessels: vessels(one(8), none, none), Pipes: []api.Pipe{pipe(0, 1, one(1000000), none), pipe(1, 2, one(1000000), none)}}, nil, ranges(none, one(8), none)}, {api.Vacuum{Vessels: vessels(one(8), one(5)), Pipes: []api.Pipe{pipe(0, 1, one(1000000), one(1000000))}}, nil, ranges(one(5), one(8))},
		// Leaks come in behind the flow, whole.
		{api.Vacuum{Vessels: vessels(one(8), one(5)), Leaks: []api.Inlet{{At: 1, Gas: of(3, 4)}, {At: 0, Gas: of(0, 9)}, {At: 1, Gas: one(100)}}}, nil, ranges(of(8, 17), of(108, 109))}, {api.Vacuum{Vessels: vessels(one(8), one(5)), Pumps: []api.Pump{{At: 0, Part: one(1000000)}}, Leaks: []api.Inlet{{At: 0, Gas: one(100000)}}}, nil, ranges(one(100000), one(5))}, {api.Vacuum{Vessels: vessels(none, none), Pipes: []api.Pipe{pipe(0, 1, one(1000000), none)}, Leaks: []api.Inlet{{At: 0, Gas: of(0, 5)}}}, nil, ranges(of(0, 5), none)},
	} {
		g := begun(t, c.v)
		g.Most = 1 << 36
		if x := ticked(t, c.v, g, api.Bake{Shut: c.shut}); !slices.Equal(x.Free, c.want) {
			t.Error(i, x)
		}
	}
}

// P6.2 (getters): what they bind, at most as much as they have room for; they come one after the other, behind flow and leaks.
func TestGetters(t *testing.T) {
	for i, c := range []struct {
		free, part, room   api.Range
		want, roomIsAtLast api.Range
	}{
		{one(10), one(500000), one(100), one(5), one(95)}, {one(10), one(500000), one(5), one(5), none}, {one(10), one(500000), one(4), one(6), none}, {one(10), one(500000), none, one(10), none}, {one(10), none, one(7), one(10), one(7)}, {one(10), one(1000000), one(7), one(3), none}, {one(10), one(1000000), one(70), none, one(60)}, {none, one(1000000), one(7), none, one(7)},
		// Half of 7 is 3 to 4.
		{one(7), one(500000), one(100), of(3, 4), of(96, 97)}, {one(7), one(500000), one(3), one(4), none}, {one(7), one(500000), one(4), of(3, 4), of(0, 1)}, {one(7), one(500000), of(3, 4), of(3, 4), of(0, 1)}, {one(7), one(500000), of(2, 4), of(3, 5), of(0, 1)}, {one(1), one(1), one(9), of(0, 1), of(8, 9)}, {one(1), one(999999), one(9), of(0, 1), of(8, 9)},
		// A tenth to a half of 20 to 40: 2 to 20.
		{of(20, 40), of(100000, 500000), one(100), of(10, 36), of(80, 98)}, {of(20, 40), of(100000, 500000), of(0, 100), of(10, 40), of(0, 98)}, {of(20, 40), of(100000, 500000), of(3, 9), of(11, 37), of(0, 7)}, {of(20, 40), of(100000, 500000), of(5, 10), of(10, 36), of(0, 8)}, {of(20, 40), of(100000, 500000), of(21, 22), of(10, 36), of(1, 20)}, {of(0, 40), of(0, 1000000), of(0, 50), of(0, 40), of(0, 50)},
	} {
		v := alone(c.free, none)
		v.Getters = []api.Getter{{Part: c.part, Room: c.room}}
		g := begun(t, v)
		if x := ticked(t, v, g, api.Bake{Flash: true}); x.Free[0] != c.want || x.Room[0] != c.roomIsAtLast {
			t.Error(i, x)
		}
		if x := ticked(t, v, g, api.Bake{}); x.Free[0] != c.free || x.Room[0] != c.room {
			t.Error(i, x)
		}
	}
	half := api.Getter{Part: one(500000), Room: one(6)}
	v := alone(one(16), none)
	for i, c := range []struct {
		getters    []api.Getter
		free, room []api.Range
	}{
		{[]api.Getter{half, half, half}, ranges(of(2, 3)), ranges(none, one(1), of(3, 4))}, // 16, 10, 5, 2 to 3
		{[]api.Getter{half, {At: 1, Part: one(1000000), Room: one(9)}, half}, ranges(one(5)), ranges(none, one(9), one(1))},
	} {
		v.Vessels, v.Getters = append(v.Vessels[:1], api.Vessel{Volume: 1}), c.getters
		x := ran(t, v, []api.Bake{{Ticks: 1, Flash: true}})
		if !slices.Equal(x.Free, append(c.free, none)) || !slices.Equal(x.Room, c.room) {
			t.Error(i, x)
		}
	}
	// What leaks in, flows in and was set free before can be bound in the same tick.
	v = api.Vacuum{
		Vessels: []api.Vessel{{Volume: 1, Free: one(10)}, {Volume: 1, Bound: one(10), Bands: []api.Release{band(0, one(1000000))}}},
		Pipes:   []api.Pipe{pipe(0, 1, one(1000000), none)},
		Leaks:   []api.Inlet{{At: 1, Gas: one(10)}},
		Getters: []api.Getter{{At: 1, Part: one(1000000), Room: one(25)}},
	}
	if x := ran(t, v, []api.Bake{{Ticks: 1, Flash: true}}); !slices.Equal(x.Free, ranges(none, one(5))) || x.Room[0] != none {
		t.Error(x)
	}
}

// P6.2 (cut): no Free and no Bound is more than Most, to which leaks add their Hi, up to 2^36.
func TestMost(t *testing.T) {
	few := api.Gas{Free: ranges(of(30, 90), none), Bound: ranges(of(50, 60), of(3, 60)), Room: ranges(of(40, 50)), Most: 20}
	if x := ticked(t, systemW(), few, api.Bake{Shut: []int{0}}); !sameGas(x, api.Gas{Free: ranges(one(22), of(1, 2)), Bound: ranges(one(22), of(3, 22)), Room: ranges(of(40, 50)), Most: 22}) {
		t.Error(x)
	}
	two := systemW()
	two.Leaks = append(two.Leaks, api.Inlet{At: 0, Gas: of(0, 100000)})
	for i, c := range []struct {
		v          api.Vacuum
		most, want int
	}{
		{systemV(), 5, 5}, {systemV(), 0, 0}, {systemW(), 5, 7}, {two, 5, 100007}, {systemW(), 1<<36 - 3, 1<<36 - 1}, {systemW(), 1<<36 - 2, 1 << 36}, {systemW(), 1<<36 - 1, 1 << 36}, {systemW(), 1 << 36, 1 << 36}, {two, 1<<36 - 100001, 1 << 36}, {two, 1<<36 - 100003, 1<<36 - 1},
	} {
		g := begun(t, c.v)
		g.Most = c.most
		if x := ticked(t, c.v, g, api.Bake{}); x.Most != c.want {
			t.Error(i, x.Most)
		}
	}
	// The edge itself is not cut; what is cut is cut behind flow and getters.
	v := alone(none, none)
	v.Leaks, v.Getters = []api.Inlet{{Gas: of(0, 4)}}, []api.Getter{{Part: one(500000), Room: one(1 << 20)}}
	for i, c := range []struct {
		free, want api.Range
		most       int
	}{
		{one(20), of(10, 12), 8}, {one(20), of(10, 11), 7}, {one(20), one(10), 6}, {one(20), one(9), 5}, {one(20), one(4), 0},
	} {
		g := api.Gas{Free: ranges(c.free), Bound: ranges(none), Room: ranges(one(100)), Most: c.most, Flashed: true}
		if x := ticked(t, v, g, api.Bake{}); x.Free[0] != c.want {
			t.Error(i, x)
		}
	}
	// The greatest gas stays what it is.
	v = alone(none, none)
	v.Leaks = []api.Inlet{{Gas: one(100000)}}
	g := api.Gas{Free: ranges(one(1 << 36)), Bound: ranges(one(1 << 36)), Most: 1 << 36}
	if x := ticked(t, v, g, api.Bake{}); !sameGas(x, g) {
		t.Error(x)
	}
}

// P6.2: ticks are those that one finds vessel by vessel.
func TestTickIsThatOfVessels(t *testing.T) {
	cut, full := 0, 0
	systems(t, 10, 20000, func(d *dice, v api.Vacuum, s kind) {
		if d.upTo(50) == 0 {
			s.gas = 1 << 36
		}
		g := d.gas(v, s)
		if d.upTo(4) == 0 {
			g.Most = d.upTo(g.Most + 1)
		}
		if d.upTo(50) == 0 {
			g.Most = 1<<36 - d.upTo(s.gas+1)
		}
		for range 3 {
			b := d.stage(v, api.MaxPump)
			x, want := ticked(t, v, g, b), plainTick(v, g, b)
			if !sameGas(x, want) {
				t.Error(g, b, x, want)
			}
			g = x
			if g.Most == 1<<36 {
				full++
			}
			if slices.Contains(g.Free, one(g.Most)) {
				cut++
			}
		}
	})
	if cut < 1000 || full < 100 {
		t.Error(cut, full)
	}
}
