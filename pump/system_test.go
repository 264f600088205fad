package pump

import (
	"slices"
	"testing"

	"thermion/api"
)

// systemX has two of each part; out of its first vessel all gas can go.
func systemX() api.Vacuum {
	v := systemW()
	v.Vessels[0].Bands = append(v.Vessels[0].Bands, band(700, one(1000000)))
	v.Pipes = append(v.Pipes, pipe(1, 0, none, of(0, 100000)))
	v.Pumps = []api.Pump{{At: 1, Part: of(1000, 2000)}, {At: 0, Part: of(0, 400000)}}
	v.Leaks = append(v.Leaks, api.Inlet{At: 0, Gas: of(0, 100000)})
	v.Getters = append(v.Getters, api.Getter{At: 0, Part: of(0, 1000000), Room: of(0, 1000000000)})
	return v
}

// systemFaults are the faults of systemX, in the order in which they are found.
func systemFaults() []fault[api.Vacuum] {
	return []fault[api.Vacuum]{
		{func(v *api.Vacuum) { v.Vessels = append(v.Vessels, make([]api.Vessel, 7)...) }, api.ErrFull}, {func(v *api.Vacuum) { v.Pipes = append(v.Pipes, make([]api.Pipe, 15)...) }, api.ErrFull}, {func(v *api.Vacuum) { v.Pumps = append(v.Pumps, make([]api.Pump, 7)...) }, api.ErrFull}, {func(v *api.Vacuum) { v.Leaks = append(v.Leaks, make([]api.Inlet, 7)...) }, api.ErrFull}, {func(v *api.Vacuum) { v.Getters = append(v.Getters, make([]api.Getter, 7)...) }, api.ErrFull},
		{func(v *api.Vacuum) { v.Vessels[0].Volume = 0 }, api.ErrRange}, {func(v *api.Vacuum) { v.Vessels[0].Free = of(1, 0) }, api.ErrOrder}, {func(v *api.Vacuum) { v.Vessels[0].Bound = of(-1, 0) }, api.ErrRange},
		{func(v *api.Vacuum) { v.Vessels[0].Bands = append(v.Vessels[0].Bands, make([]api.Release, 7)...) }, api.ErrFull}, {func(v *api.Vacuum) { v.Vessels[0].Bands[0].From = -1 }, api.ErrRange}, {func(v *api.Vacuum) { v.Vessels[0].Bands[0].Rate = of(1, 0) }, api.ErrOrder}, {func(v *api.Vacuum) { v.Vessels[0].Bands[1].From = 2001 }, api.ErrRange}, {func(v *api.Vacuum) { v.Vessels[0].Bands[1].From = 500 }, api.ErrOrder}, {func(v *api.Vacuum) { v.Vessels[0].Bands[1].Rate = one(1000001) }, api.ErrRange},
		{func(v *api.Vacuum) { v.Vessels[1].Free = of(2, 1) }, api.ErrOrder}, {func(v *api.Vacuum) { v.Vessels[1].Bound = one(1000000001) }, api.ErrRange}, {func(v *api.Vacuum) { v.Vessels[1].Bands = []api.Release{band(5, one(5)), band(4, one(5))} }, api.ErrOrder},
		{func(v *api.Vacuum) { v.Pipes[0].A = 2 }, api.ErrMissing}, {func(v *api.Vacuum) { v.Pipes[0].B = v.Pipes[0].A }, api.ErrExists}, {func(v *api.Vacuum) { v.Pipes[0].Out = of(1, 0) }, api.ErrOrder}, {func(v *api.Vacuum) { v.Pipes[0].Back = of(-1, 0) }, api.ErrRange}, {func(v *api.Vacuum) { v.Pipes[1].B = -1 }, api.ErrMissing}, {func(v *api.Vacuum) { v.Pipes[1].Out = one(1000001) }, api.ErrRange}, {func(v *api.Vacuum) { v.Pipes[1].Back = of(-1, -2) }, api.ErrOrder},
		{func(v *api.Vacuum) { v.Pumps[0].At = 2 }, api.ErrMissing}, {func(v *api.Vacuum) { v.Pumps[0].Part = of(1, 0) }, api.ErrOrder}, {func(v *api.Vacuum) { v.Pumps[1].At = -1 }, api.ErrMissing}, {func(v *api.Vacuum) { v.Pumps[1].Part = of(-1, 0) }, api.ErrRange},
		{func(v *api.Vacuum) { v.Leaks[0].At = 2 }, api.ErrMissing}, {func(v *api.Vacuum) { v.Leaks[0].Gas = of(1, 0) }, api.ErrOrder}, {func(v *api.Vacuum) { v.Leaks[1].At = -1 }, api.ErrMissing}, {func(v *api.Vacuum) { v.Leaks[1].Gas = of(0, 100001) }, api.ErrRange},
		{func(v *api.Vacuum) { v.Getters[0].At = 2 }, api.ErrMissing}, {func(v *api.Vacuum) { v.Getters[0].Part = of(1, 0) }, api.ErrOrder}, {func(v *api.Vacuum) { v.Getters[0].Room = of(-1, 0) }, api.ErrRange}, {func(v *api.Vacuum) { v.Getters[1].At = -1 }, api.ErrMissing}, {func(v *api.Vacuum) { v.Getters[1].Part = of(0, 1000001) }, api.ErrRange}, {func(v *api.Vacuum) { v.Getters[1].Room = of(2, 1) }, api.ErrOrder},
		{func(v *api.Vacuum) { v.Pumps = append(v.Pumps, api.Pump{Part: of(0, 1)}) }, api.ErrOver},
	}
}

// P6.1: Check finds each error of a system, and the first one if there are several.
func TestCheck(t *testing.T) {
	inOrder(t, systemX, systemFaults(), Check)
	// Nothing comes before the number of vessels.
	for i, f := range systemFaults() {
		v := changed(systemX(), f.change)
		v.Vessels = nil
		if e := Check(v); e != api.ErrShort {
			t.Error(i, e)
		}
	}
}

// P6.1: all other functions that take a system return its error, and nothing else with it.
func TestErrorsOfSystems(t *testing.T) {
	for i, f := range append(systemFaults(), fault[api.Vacuum]{func(v *api.Vacuum) { v.Vessels = []api.Vessel{} }, api.ErrShort}) {
		v := changed(systemX(), f.change)
		g, e1 := Begin(v)
		e2, e3 := Belongs(v, begin(v)), CheckStage(v, api.Bake{})
		x, e4 := Tick(v, begin(v), api.Bake{})
		y, e5 := Run(v, []api.Bake{{Ticks: 1}})
		r, e6 := Pressure(v, begin(v), 0)
		a, e7 := Seal(v, begin(v), 0, 0)
		b, e8 := Peak(v, []api.Bake{{Ticks: 1}}, 0)
		c, e9 := Hold(v, []api.Bake{{Ticks: 1}}, 0, 1<<40)
		if l := []api.Errno{e1, e2, e3, e4, e5, e6, e7, e8, e9}; slices.ContainsFunc(l, func(e api.Errno) bool { return e != f.want }) {
			t.Error(i, l)
		}
		if !sameGas(g, api.Gas{}) || !sameGas(x, api.Gas{}) || !sameGas(y, api.Gas{}) || r != none || a != 0 || b != 0 || c != 0 {
			t.Error(i, g, x, y, r, a, b, c)
		}
	}
	// The system's error comes before all others.
	v := systemX()
	v.Pumps[0].At = 2
	_, e1 := Tick(v, api.Gas{}, api.Bake{Ticks: -1})
	_, e2 := Run(v, make([]api.Bake, 21))
	_, e3 := Pressure(v, api.Gas{}, -1)
	_, e4 := Seal(v, api.Gas{}, -1, -1)
	_, e5 := Peak(v, make([]api.Bake, 21), -1)
	_, e6 := Hold(v, make([]api.Bake, 21), -1, -1)
	if l := []api.Errno{e1, e2, e3, e4, e5, e6, Belongs(v, api.Gas{}), CheckStage(v, api.Bake{Ticks: -1})}; slices.ContainsFunc(l, func(e api.Errno) bool { return e != api.ErrMissing }) {
		t.Error(l)
	}
}

// P6.1: the edges of what a system may have.
func TestEdgesOfSystems(t *testing.T) {
	loose := func(change func(v *api.Vacuum)) api.Vacuum { // nothing goes out of its vessels
		v := systemX()
		v.Pumps, v.Pipes = []api.Pump{{At: 1}}, []api.Pipe{pipe(0, 1, none, none)}
		change(&v)
		return v
	}
	for i, c := range []struct {
		v    api.Vacuum
		want api.Errno
	}{
		{systemV(), api.OK}, {systemW(), api.OK}, {systemX(), api.OK}, {api.Vacuum{}, api.ErrShort}, {api.Vacuum{Vessels: []api.Vessel{}, Pipes: make([]api.Pipe, 17)}, api.ErrShort}, {api.Vacuum{Vessels: []api.Vessel{{Volume: 1}}}, api.OK}, {api.Vacuum{Vessels: slices.Repeat([]api.Vessel{{Volume: 1}}, 8)}, api.OK}, {api.Vacuum{Vessels: make([]api.Vessel, 9)}, api.ErrFull},
		{loose(func(v *api.Vacuum) { v.Pipes = slices.Repeat(v.Pipes, 16) }), api.OK}, {loose(func(v *api.Vacuum) { v.Pumps = slices.Repeat(v.Pumps, 8) }), api.OK}, {loose(func(v *api.Vacuum) { v.Leaks = slices.Repeat(v.Leaks, 4) }), api.OK}, {loose(func(v *api.Vacuum) { v.Getters = slices.Repeat(v.Getters, 4) }), api.OK}, {loose(func(v *api.Vacuum) { v.Pipes = slices.Repeat(v.Pipes, 17) }), api.ErrFull}, {loose(func(v *api.Vacuum) { v.Leaks = slices.Repeat(v.Leaks, 5) }), api.ErrFull},
		{loose(func(v *api.Vacuum) { v.Vessels[1].Volume = 1000000 }), api.OK}, {loose(func(v *api.Vacuum) { v.Vessels[1].Volume = 1000001 }), api.ErrRange}, {loose(func(v *api.Vacuum) { v.Vessels[1].Volume = -1 }), api.ErrRange}, {loose(func(v *api.Vacuum) { v.Vessels[1].Volume = 0 }), api.ErrRange},
		{loose(func(v *api.Vacuum) {
			v.Vessels[1].Bands = []api.Release{band(0, none), band(1, none), band(2, none), band(3, none), band(4, none), band(5, none), band(1999, none), band(2000, none)}
		}), api.OK},
		{loose(func(v *api.Vacuum) { v.Vessels[1].Bands = make([]api.Release, 9) }), api.ErrFull}, {loose(func(v *api.Vacuum) { v.Vessels[1].Bands = make([]api.Release, 2) }), api.ErrOrder}, {loose(func(v *api.Vacuum) { v.Vessels[1].Bands = []api.Release{band(7, none), band(6, none)} }), api.ErrOrder}, {loose(func(v *api.Vacuum) { v.Vessels[1].Bands = []api.Release{band(7, none), band(-1, none)} }), api.ErrRange}, {loose(func(v *api.Vacuum) { v.Vessels[1].Bands = []api.Release{band(2001, none)} }), api.ErrRange},
		{loose(func(v *api.Vacuum) { v.Pipes[0].A = -1 }), api.ErrMissing}, {loose(func(v *api.Vacuum) { v.Pipes[0].B = 2 }), api.ErrMissing}, {loose(func(v *api.Vacuum) { v.Pipes[0].A, v.Pipes[0].B = 2, 2 }), api.ErrMissing}, {loose(func(v *api.Vacuum) { v.Pipes[0].A, v.Pipes[0].B = 1, 0 }), api.OK}, {loose(func(v *api.Vacuum) { v.Pipes[0].A = 1 }), api.ErrExists},
	} {
		if e := Check(c.v); e != c.want {
			t.Error(i, e)
		}
	}
	// Each range by itself, with its least and greatest numbers.
	for i, most := range []int{1000000000, 1000000000, 1000000, 1000000, 1000000000, 1000000000, 1000000, 1000000, 1000000, 100000, 100000, 1000000, 1000000000, 1000000, 1000000000} {
		for k, c := range []struct {
			r    api.Range
			want api.Errno
		}{{none, api.OK}, {of(0, most), api.OK}, {one(most), api.OK}, {of(1, 0), api.ErrOrder}, {of(-1, 0), api.ErrRange}, {one(-1), api.ErrRange}, {of(-1, -2), api.ErrOrder}, {of(0, most+1), api.ErrRange}, {one(most + 1), api.ErrRange}, {of(most+1, most), api.ErrOrder}, {of(-1, most+1), api.ErrRange}} {
			v := loose(func(v *api.Vacuum) { *rangesOf(v)[i] = c.r })
			if e := Check(v); e != c.want {
				t.Error(i, k, e)
			}
		}
	}
}

// P6.1: just as much as all of a vessel's gas may go out of it: by pipes on both of their sides, and by pumps; their Hi alone count.
func TestWhatGoesOut(t *testing.T) {
	three := func(pumps []api.Pump, pipes ...api.Pipe) api.Vacuum {
		return api.Vacuum{Vessels: slices.Repeat([]api.Vessel{{Volume: 1}}, 3), Pumps: pumps, Pipes: pipes, Leaks: []api.Inlet{{At: 2, Gas: one(100000)}}, Getters: []api.Getter{{At: 2, Part: one(1000000)}}}
	}
	half := one(500000)
	for i, c := range []struct {
		v    api.Vacuum
		want api.Errno
	}{
		{changed(systemV(), func(v *api.Vacuum) { v.Pumps = append(v.Pumps, api.Pump{Part: half}) }), api.OK}, {changed(systemV(), func(v *api.Vacuum) { v.Pumps = append(v.Pumps, api.Pump{Part: one(500001)}) }), api.ErrOver}, {changed(systemV(), func(v *api.Vacuum) { v.Pumps = append(v.Pumps, api.Pump{Part: of(0, 500001)}) }), api.ErrOver},
		{three(nil, pipe(2, 0, half, none), pipe(2, 1, half, none)), api.OK}, {three(nil, pipe(2, 0, half, none), pipe(2, 1, of(0, 500001), none)), api.ErrOver}, {three(nil, pipe(0, 2, none, half), pipe(1, 2, none, half)), api.OK}, {three(nil, pipe(0, 2, none, half), pipe(1, 2, none, of(7, 500001))), api.ErrOver}, {three(nil, pipe(0, 2, none, half), pipe(2, 1, half, none)), api.OK}, {three(nil, pipe(0, 2, none, half), pipe(2, 1, one(500001), none)), api.ErrOver},
		{three(nil, pipe(0, 1, one(1000000), one(1000000))), api.OK}, {three(nil, pipe(0, 1, one(1000000), one(1000000)), pipe(1, 2, one(1), none)), api.ErrOver}, {three([]api.Pump{{At: 0, Part: one(1)}}, pipe(0, 1, one(1000000), one(1000000))), api.ErrOver}, {three([]api.Pump{{At: 1, Part: one(1)}}, pipe(0, 1, one(1000000), one(1000000))), api.ErrOver}, {three([]api.Pump{{At: 2, Part: one(1000000)}}, pipe(0, 1, one(1000000), one(1000000))), api.OK},
		{three([]api.Pump{{At: 0, Part: one(1000000)}, {At: 1, Part: one(1000000)}, {At: 2, Part: one(1000000)}}), api.OK}, {three(slices.Repeat([]api.Pump{{At: 1, Part: one(125000)}}, 8)), api.OK}, {three(slices.Repeat([]api.Pump{{At: 1, Part: of(0, 125001)}}, 8)), api.ErrOver},
	} {
		if e := Check(c.v); e != c.want {
			t.Error(i, e)
		}
	}
	systems(t, 1, 2000, func(d *dice, v api.Vacuum, s kind) {
		n, sum := d.upTo(len(v.Vessels)), 0
		for _, p := range v.Pipes {
			if p.A == n {
				sum += p.Out.Hi
			}
			if p.B == n {
				sum += p.Back.Hi
			}
		}
		v.Pumps = v.Pumps[:min(7, len(v.Pumps))]
		for _, p := range v.Pumps {
			if p.At == n {
				sum += p.Part.Hi
			}
		}
		v.Pumps = append(v.Pumps, api.Pump{At: n, Part: of(0, 1000000-sum)})
		if e := Check(v); e != api.OK {
			t.Error(n, sum, e)
		}
		v.Pumps[len(v.Pumps)-1].Part.Hi++
		if e := Check(v); sum > 0 && e != api.ErrOver || sum == 0 && e != api.ErrRange {
			t.Error(n, sum, e)
		}
	})
}

// P6.1: gas at the beginning.
func TestBegin(t *testing.T) {
	for i, c := range []struct {
		v    api.Vacuum
		want api.Gas
	}{
		{systemV(), api.Gas{Free: ranges(one(1000)), Bound: ranges(none), Most: 1000}},
		{systemW(), api.Gas{Free: ranges(one(100), none), Bound: ranges(of(100, 200), none), Room: ranges(of(10, 20)), Most: 300}},
		{systemX(), api.Gas{Free: ranges(one(100), none), Bound: ranges(of(100, 200), none), Room: ranges(of(10, 20), of(0, 1000000000)), Most: 300}},
		{api.Vacuum{Vessels: []api.Vessel{{Volume: 1, Free: of(1, 20), Bound: of(3, 400)}, {Volume: 2, Free: of(5, 6000), Bound: of(7, 80000)}}}, api.Gas{Free: ranges(of(1, 20), of(5, 6000)), Bound: ranges(of(3, 400), of(7, 80000)), Most: 86420}},
		{api.Vacuum{Vessels: slices.Repeat([]api.Vessel{{Volume: 1, Free: one(1000000000), Bound: of(0, 1000000000)}}, 8)}, api.Gas{Free: slices.Repeat(ranges(one(1000000000)), 8), Bound: slices.Repeat(ranges(of(0, 1000000000)), 8), Most: 16000000000}},
	} {
		g := begun(t, c.v)
		if !sameGas(g, c.want) {
			t.Error(i, g)
		}
		if e := Belongs(c.v, g); e != api.OK {
			t.Error(i, e)
		}
	}
	systems(t, 2, 400, func(d *dice, v api.Vacuum, s kind) {
		if g, want := begun(t, v), plainRun(v, nil)[0]; !sameGas(g, want) {
			t.Error(g, want)
		}
	})
}
