package pump

import (
	"slices"
	"testing"

	"thermion/api"
)

// P6.2, P6.4: errors of runs, and their order.
func TestRunErrors(t *testing.T) {
	bad := api.Bake{Ticks: 2001}
	hundred := slices.Repeat([]api.Bake{{Ticks: 100}}, 20)
	for i, c := range []struct {
		l    []api.Bake
		want api.Errno
	}{
		{nil, api.OK}, {[]api.Bake{}, api.OK}, {make([]api.Bake, 20), api.OK}, {make([]api.Bake, 21), api.ErrFull}, {slices.Repeat([]api.Bake{bad}, 21), api.ErrFull}, {hundred, api.OK}, {append(slices.Clone(hundred), api.Bake{}), api.ErrFull}, {append(slices.Clone(hundred[1:]), api.Bake{Ticks: 101}), api.ErrOver}, {[]api.Bake{{Ticks: 2000}}, api.OK}, {[]api.Bake{{Ticks: 2000}, {Ticks: 1}}, api.ErrOver}, {[]api.Bake{{Ticks: 1}, {Ticks: 2000}}, api.ErrOver}, {slices.Repeat([]api.Bake{{Ticks: 2000}}, 20), api.ErrOver},
		{[]api.Bake{bad}, api.ErrRange}, {[]api.Bake{{Ticks: 2000}, {Ticks: 2000}, bad}, api.ErrRange}, {[]api.Bake{{Ticks: 2000}, {Ticks: 2000}, {Shut: []int{2}}}, api.ErrMissing}, {[]api.Bake{{Shut: []int{2}}, bad}, api.ErrMissing}, {[]api.Bake{{Shut: []int{1, 0}}, {Shut: []int{2}}, bad}, api.ErrOrder}, {[]api.Bake{bad, {Shut: []int{2}}}, api.ErrRange},
	} {
		g, a := Run(systemX(), c.l)
		n, b := Peak(systemX(), c.l, 1)
		m, d := Hold(systemX(), c.l, 1, 1<<50)
		if a != c.want || b != c.want || d != c.want && len(c.l) > 0 || d != api.ErrShort && len(c.l) == 0 || a != api.OK && (!sameGas(g, api.Gas{}) || n != 0) || m != 0 {
			t.Error(i, g, a, n, b, m, d)
		}
		// The run's error comes before those of the vessel and of the limit.
		_, b = Peak(systemX(), c.l, 2)
		_, d = Hold(systemX(), c.l, 2, -1)
		_, f := Hold(systemX(), c.l, 1, -1)
		if a != api.OK && (b != a || d != a || f != a) || a == api.OK && (b != api.ErrMissing || d != api.ErrMissing || f != api.ErrRange) {
			t.Error(i, b, d, f)
		}
	}
}

// P6.2: runs that were found by hand.
func TestRun(t *testing.T) {
	for i, c := range []struct {
		ticks int
		want  api.Range
	}{{0, one(1000)}, {1, one(500)}, {2, one(250)}, {3, one(125)}, {4, of(62, 63)}, {5, of(31, 32)}, {6, of(15, 16)}, {7, of(7, 8)}, {8, of(3, 4)}, {9, of(1, 2)}, {10, of(0, 1)}, {2000, of(0, 1)}} {
		for _, l := range [][]api.Bake{{{Ticks: c.ticks}}, {{}, {Ticks: c.ticks / 2}, {}, {Ticks: c.ticks - c.ticks/2}, {}}} {
			if g := ran(t, systemV(), l); !sameGas(g, api.Gas{Free: ranges(c.want), Bound: ranges(none), Most: 1000}) {
				t.Error(i, g)
			}
		}
	}
	if g := ran(t, systemW(), []api.Bake{{Ticks: 2}}); !sameGas(g, api.Gas{Free: ranges(of(29, 42), of(57, 79)), Bound: ranges(of(100, 200), none), Room: ranges(of(10, 20)), Most: 304}) {
		t.Error(g)
	}
	// A stage without ticks does nothing: it flashes nothing.
	for _, l := range [][]api.Bake{nil, {{Flash: true, Heat: 2000}}, make([]api.Bake, 20)} {
		if g := ran(t, systemW(), l); !sameGas(g, begun(t, systemW())) {
			t.Error(l, g)
		}
	}
	// Each stage has its own heat and pipes; getters stay flashed.
	v := systemW()
	v.Leaks = nil
	shut := api.Bake{Ticks: 1, Shut: []int{0}}
	if g := ran(t, v, []api.Bake{{Ticks: 1, Heat: 500, Shut: []int{0}}, {Ticks: 1}, {Ticks: 1, Shut: []int{0}, Flash: true}, shut}); !sameGas(g, api.Gas{Free: ranges(of(55, 84), of(24, 60)), Bound: ranges(of(80, 180), none), Room: ranges(none), Most: 300, Flashed: true}) {
		t.Error(g)
	}
}

// P6.2, P6.4: runs, peaks and holds are those that one finds tick by tick.
func TestRunIsThatOfTicks(t *testing.T) {
	held, never, later := 0, 0, 0
	systems(t, 20, 6000, func(d *dice, v api.Vacuum, s kind) {
		l := d.stages(v, 3, 6)
		all := plainRun(v, l)
		if g := ran(t, v, l); !sameGas(g, all[len(all)-1]) {
			t.Error(l, g, all)
		}
		n, peak := d.upTo(len(v.Vessels)), 0
		for _, g := range all {
			peak = max(peak, plainPressure(v, g, n).Hi)
		}
		if m, e := Peak(v, l, n); m != peak || e != api.OK {
			t.Error(l, n, m, e, peak)
		}
		if len(l) == 0 {
			return
		}
		limit := d.of(of(max(0, plainPressure(v, all[len(all)-1], n).Hi-d.upTo(3)), peak+1))
		m, e := Hold(v, l, n, limit)
		for k := range l[len(l)-1].Ticks + 1 { // the first number of ticks after which the vessel may be sealed
			if plainPressure(v, all[len(all)-1-l[len(l)-1].Ticks+k], n).Hi > limit {
				continue
			}
			if held++; k > 0 {
				later++
			}
			if m != k || e != api.OK {
				t.Error(l, n, limit, m, e, k)
			}
			return
		}
		if never++; m != 0 || e != api.ErrUnsure {
			t.Error(l, n, limit, m, e)
		}
	})
	if held < 1000 || later < 300 || never < 300 {
		t.Error(held, later, never)
	}
}

// P6.4: peaks that were found by hand, and errors with a vessel.
func TestPeak(t *testing.T) {
	rising := alone(one(5), none)
	rising.Leaks = []api.Inlet{{Gas: of(1, 2)}}
	hot := alone(none, one(100), band(500, one(500000)))
	hot.Pumps = []api.Pump{{Part: one(1000000)}}
	hot.Vessels = append(hot.Vessels, api.Vessel{Volume: 3, Free: one(7)})
	for i, c := range []struct {
		v      api.Vacuum
		l      []api.Bake
		vessel int
		want   int
		e      api.Errno
	}{
		{systemV(), nil, 0, 100000, api.OK}, {systemV(), []api.Bake{{Ticks: 3}}, 0, 100000, api.OK}, {systemV(), []api.Bake{{Ticks: 2000}}, 0, 100000, api.OK}, {systemV(), nil, 1, 0, api.ErrMissing}, {systemV(), nil, -1, 0, api.ErrMissing},
		{rising, nil, 0, 5000, api.OK}, {rising, []api.Bake{{}}, 0, 5000, api.OK}, {rising, []api.Bake{{Ticks: 1}}, 0, 7000, api.OK}, {rising, []api.Bake{{Ticks: 1}, {}, {Ticks: 9}}, 0, 25000, api.OK},
		// All that is free is pumped in the next tick: what is set free is gone in the same one.
		{hot, []api.Bake{{Ticks: 9, Heat: 500}}, 0, 0, api.OK}, {hot, []api.Bake{{Ticks: 9, Heat: 500}}, 1, 2334, api.OK},
		// In between there is more than at both ends.
		{changed(hot, func(v *api.Vacuum) { v.Pumps = []api.Pump{{Part: one(500000)}} }), []api.Bake{{Ticks: 2, Heat: 500}, {Ticks: 50}}, 0, 25000, api.OK}, {changed(hot, func(v *api.Vacuum) { v.Pumps = []api.Pump{{Part: one(250000)}} }), []api.Bake{{Ticks: 2, Heat: 500}, {Ticks: 50}}, 0, 48000, api.OK},
	} {
		if n, e := Peak(c.v, c.l, c.vessel); n != c.want || e != c.e {
			t.Error(i, n, e)
		}
	}
}

// P6.4: holds that were found by hand, and errors with a vessel, a limit, and no stage.
func TestHold(t *testing.T) {
	nine := []api.Bake{{Ticks: 9}}
	rising := alone(one(5), none)
	rising.Leaks = []api.Inlet{{Gas: of(1, 2)}}
	doubt := alone(of(0, 5), none)
	doubt.Pumps = []api.Pump{{Part: of(0, 1000000)}}
	for i, c := range []struct {
		v             api.Vacuum
		l             []api.Bake
		vessel, limit int
		want          int
		e             api.Errno
	}{
		{systemV(), nine, 0, 5000, 5, api.OK}, {systemV(), nine, 0, 3200, 5, api.OK}, {systemV(), nine, 0, 3199, 6, api.OK}, {systemV(), nine, 0, 6299, 5, api.OK}, {systemV(), nine, 0, 6300, 4, api.OK}, {systemV(), nine, 0, 100000, 0, api.OK}, {systemV(), nine, 0, 99999, 1, api.OK}, {systemV(), nine, 0, 200, 9, api.OK}, {systemV(), nine, 0, 199, 0, api.ErrUnsure}, {systemV(), nine, 0, 1, 0, api.ErrUnsure}, {systemV(), nine, 0, 1 << 62, 0, api.OK},
		{systemV(), []api.Bake{{Ticks: 3}, {Ticks: 9}}, 0, 5000, 2, api.OK}, {systemV(), []api.Bake{{Ticks: 3}, {}}, 0, 12500, 0, api.OK}, {systemV(), []api.Bake{{Ticks: 3}, {}}, 0, 12499, 0, api.ErrUnsure}, {systemV(), []api.Bake{{Ticks: 3}, {Ticks: 1}}, 0, 12499, 1, api.OK}, {systemV(), []api.Bake{{Ticks: 1}, {Ticks: 1}, {Ticks: 1}, {Ticks: 7}}, 0, 3200, 2, api.OK}, {systemV(), []api.Bake{{}}, 0, 99999, 0, api.ErrUnsure},
		{systemV(), nine, 1, -1, 0, api.ErrMissing}, {systemV(), nil, 1, -1, 0, api.ErrMissing}, {systemV(), nine, -1, 5, 0, api.ErrMissing}, {systemV(), nil, 0, -1, 0, api.ErrRange}, {systemV(), nine, 0, -1 << 62, 0, api.ErrRange}, {systemV(), nil, 0, 5, 0, api.ErrShort}, {systemV(), []api.Bake{}, 0, 1 << 62, 0, api.ErrShort},
		// The other stages have all their ticks, though it could be sealed before.
		{rising, []api.Bake{{Ticks: 1}, {Ticks: 9}}, 0, 5000, 0, api.ErrUnsure}, {rising, []api.Bake{{Ticks: 1}, {Ticks: 9}}, 0, 7000, 0, api.OK}, {rising, nine, 0, 5000, 0, api.OK},
		// What is in doubt is not sure.
		{doubt, nine, 0, 4999, 0, api.ErrUnsure}, {doubt, nine, 0, 5000, 0, api.OK},
		{systemW(), []api.Bake{{Ticks: 9, Shut: []int{0}}}, 1, 0, 0, api.OK}, {systemW(), []api.Bake{{Ticks: 1}, {Ticks: 9, Flash: true}}, 0, 50000, 1, api.OK},
	} {
		if n, e := Hold(c.v, c.l, c.vessel, c.limit); n != c.want || e != c.e {
			t.Error(i, n, e)
		}
	}
	// Heat and flashing of the last stage begin with its first tick.
	v := systemW()
	v.Leaks, v.Vessels[1].Free = nil, one(100)
	if n, e := Hold(v, []api.Bake{{Ticks: 9, Shut: []int{0}, Flash: true}}, 1, 45000); n != 1 || e != api.OK {
		t.Error(n, e)
	}
	if n, e := Hold(v, []api.Bake{{Ticks: 9, Shut: []int{0}, Flash: true}}, 1, 50000); n != 0 || e != api.OK {
		t.Error(n, e)
	}
}
