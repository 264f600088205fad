package pump

import (
	"math"
	"slices"
	"testing"

	"thermion/api"
)

// odd are numbers that arguments may have, too.
var odd = []int{math.MinInt, math.MinInt + 15, -1000001, -17, -1, 0, 1, 2, 8, 12, 13, 500, 2000, 2001, 100001, 1000000, 1000001, 1000000001, 1 << 36, 1<<36 + 1, math.MaxInt - 15, math.MaxInt}

// oddSystems are systems that are hardly any.
func oddSystems() []api.Vacuum {
	l := []api.Vacuum{{}, systemX(), systemV(), {Vessels: make([]api.Vessel, 5000)}, {Vessels: []api.Vessel{{Volume: 1}}, Pipes: make([]api.Pipe, 5000)}, alone(none, none, make([]api.Release, 5000)...)}
	for _, n := range odd {
		for _, change := range []func(v *api.Vacuum){
			func(v *api.Vacuum) { v.Vessels[1].Volume = n }, func(v *api.Vacuum) { v.Vessels[0].Bands[0].From = n }, func(v *api.Vacuum) { v.Vessels[0].Bands[1].From = n }, func(v *api.Vacuum) { v.Pipes[1].A = n }, func(v *api.Vacuum) { v.Pipes[1].B = n }, func(v *api.Vacuum) { v.Pipes[0].A, v.Pipes[0].B = n, n }, func(v *api.Vacuum) { v.Pumps[1].At = n }, func(v *api.Vacuum) { v.Leaks[1].At = n }, func(v *api.Vacuum) { v.Getters[1].At = n },
		} {
			l = append(l, changed(systemX(), change))
		}
		for i := range rangesOf(new(systemX())) {
			for _, r := range []api.Range{one(n), of(0, n), of(n, 0), of(n, math.MaxInt)} {
				l = append(l, changed(systemX(), func(v *api.Vacuum) { *rangesOf(v)[i] = r }))
			}
		}
	}
	return l
}

// oddGases are gases that hardly belong to systemX.
func oddGases() []api.Gas {
	l := []api.Gas{{}, gasX(), begin(systemX()), {Free: make([]api.Range, 5000), Bound: make([]api.Range, 5000), Room: make([]api.Range, 5000)}}
	for _, n := range odd {
		for _, r := range []api.Range{one(n), of(0, n), of(n, 1<<36)} {
			l = append(l, changed(gasX(), func(g *api.Gas) { g.Free[1] = r }), changed(gasX(), func(g *api.Gas) { g.Bound[0], g.Flashed = r, true }), changed(gasX(), func(g *api.Gas) { g.Room[0], g.Flashed = r, true }))
		}
		l = append(l, changed(gasX(), func(g *api.Gas) { g.Most = n }))
	}
	return l
}

// is reports whether a result comes without an error, or is none.
func is[T comparable](x T, e api.Errno) bool {
	var zero T
	return e == api.OK || x == zero
}

// isGas is is for gas.
func isGas(g api.Gas, e api.Errno) bool { return e == api.OK || sameGas(g, api.Gas{}) }

// P1, R3, R5: with whatever systems, each function ends, does not panic, and has nothing but an error with an error.
func TestAnySystems(t *testing.T) {
	for i, v := range oddSystems() {
		bad := Check(v)
		g, e1 := Begin(v)
		n, m := odd[i%len(odd)], odd[(i/7)%len(odd)]
		b := api.Bake{Ticks: 3, Heat: 600, Flash: true}
		x, e2 := Tick(v, begin(v), b)
		y, e3 := Run(v, []api.Bake{b, {Ticks: 2}})
		a, e4 := Peak(v, []api.Bake{b}, 1)
		h, e5 := Hold(v, []api.Bake{b}, 1, 1<<60)
		if l := []api.Errno{e1, e3, CheckStage(v, b)}; slices.ContainsFunc(l, func(e api.Errno) bool { return e != bad }) || bad != api.OK && (e2 != bad || e4 != bad || e5 != bad) {
			t.Error(i, v, bad, l, e2, e4, e5)
		}
		p, e6 := Pressure(v, begin(v), n)
		s, e7 := Seal(v, begin(v), n, m)
		c, e8 := Peak(v, []api.Bake{b}, n)
		d, e9 := Hold(v, []api.Bake{b}, n, m)
		if !isGas(g, e1) || !isGas(x, e2) || !isGas(y, e3) || !is(a, e4) || !is(h, e5) || !is(p, e6) || !is(s, e7) || !is(c, e8) || !is(d, e9) {
			t.Error(i, v, g, x, y, a, h, p, s, c, d)
		}
		if bad == api.OK && (Belongs(v, g) != api.OK || Belongs(v, x) != api.OK || Belongs(v, y) != api.OK) {
			t.Error(i, v, g, x, y)
		}
	}
}

// P1, R3, R5: with whatever gas, stages, vessels and limits, each function ends, does not panic, and has nothing but an error with an error.
func TestAnyGases(t *testing.T) {
	v := systemX()
	for i, g := range oddGases() {
		bad := Belongs(v, g)
		for k, n := range odd {
			m := odd[(i+k)%len(odd)]
			for _, s := range []api.Bake{{Ticks: n}, {Heat: n, Flash: true}, {Shut: []int{n}}, {Shut: []int{0, n, m}}, {Ticks: n, Heat: m, Shut: slices.Repeat([]int{n}, 5000)}} {
				wrong := CheckStage(v, s)
				x, e := Tick(v, g, s)
				if bad != api.OK && e != bad || bad == api.OK && e != wrong || !isGas(x, e) || e == api.OK && Belongs(v, x) != api.OK {
					t.Error(i, g, s, x, e)
				}
				if y, e := Run(v, []api.Bake{{}, s}); e != wrong || !isGas(y, e) {
					t.Error(i, s, y, e)
				}
			}
			p, e1 := Pressure(v, g, n)
			s, e2 := Seal(v, g, n, m)
			if bad != api.OK && (e1 != bad || e2 != bad) || !is(p, e1) || !is(s, e2) || e1 == api.OK && (n < 0 || n > 1) || e2 == api.OK && m < 0 {
				t.Error(i, g, n, m, p, e1, s, e2)
			}
		}
	}
}

// P1, R3, R5: with whatever hunts, suspects and leaks, each function ends, does not panic, and has nothing but an error with an error.
func TestAnyHunts(t *testing.T) {
	for i, n := range odd {
		for _, m := range odd {
			for _, h := range []api.Hunt{huntH(), huntOf(n), huntOf(n, test(m)), huntOf(5, test(m, n)), huntOf(12, test(3, n, m), test(m)), huntOf(3, test(1, slices.Repeat([]int{n}, 5000)...)), huntOf(12, slices.Repeat([]api.Trial{test(1, n)}, 5000)...)} {
				bad := CheckHunt(h)
				for _, suspects := range [][]int{{n}, {m, n}, {0, 1, n, m}, slices.Repeat([]int{n}, 5000)} {
					cost, trial, e := Worst(h, suspects)
					if bad != api.OK && e != bad || !is(cost, e) || !is(trial, e) {
						t.Error(i, h, suspects, cost, trial, e)
					}
				}
				l, cost, e := Find(h, m)
				if bad != api.OK && e != bad || e != api.OK && l != nil || !is(cost, e) {
					t.Error(i, h, m, l, cost, e)
				}
			}
		}
	}
}

// P1, R7: the greatest work ends, and the greatest numbers are exact.
func TestGreatestWork(t *testing.T) {
	var v api.Vacuum
	all := one(1000000)
	for range 8 {
		v.Vessels = append(v.Vessels, api.Vessel{Volume: 1, Free: one(1000000000), Bound: one(1000000000), Bands: []api.Release{band(0, none), band(1, none), band(2, none), band(3, none), band(4, none), band(5, none), band(6, none), band(2000, all)}})
	}
	for n := range 16 {
		to := pipe(n%7+1, 0, none, none)
		if n < 7 {
			to.Out = all
		}
		v.Pipes = append(v.Pipes, to)
	}
	for range 8 {
		v.Pumps = append(v.Pumps, api.Pump{})
		v.Leaks = append(v.Leaks, api.Inlet{Gas: one(100000)})
		v.Getters = append(v.Getters, api.Getter{})
	}
	stages := slices.Repeat([]api.Bake{{Ticks: 100, Heat: 2000, Flash: true}}, 20)
	if g := ran(t, v, stages); g.Free[0] != one(17600000000) || g.Bound[7] != none || g.Most != 17600000000 {
		t.Error(g)
	}
	if n, e := Peak(v, stages, 0); n != 17600000000000 || e != api.OK {
		t.Error(n, e)
	}
	if n, e := Hold(v, []api.Bake{{Ticks: 2000, Heat: 2000, Flash: true}}, 0, 1); n != 0 || e != api.ErrUnsure {
		t.Error(n, e)
	}
	// Of 2^40 and 800000, which come together in the first vessel, all but 2^36 is bound, or cut.
	most := slices.Repeat(ranges(one(1<<36)), 8)
	g := api.Gas{Free: most, Bound: most, Room: slices.Repeat(ranges(none), 8), Most: 1 << 36, Flashed: true}
	none8 := slices.Repeat(ranges(none), 8)
	want := append(ranges(one(1<<36)), none8[:7]...)
	if x := ticked(t, v, g, stages[0]); !slices.Equal(x.Free, want) || !slices.Equal(x.Bound, none8) || x.Most != 1<<36 {
		t.Error(x)
	}
	for i := range v.Getters {
		v.Getters[i].Part = all
	}
	g.Room = most // the getters have 2^39 room for it
	if x := ticked(t, v, g, stages[0]); !slices.Equal(x.Free, want) || !slices.Equal(x.Room, none8) {
		t.Error(x)
	}
	g.Free = slices.Concat(most[:7], ranges(none)) // 2^40 less 2^36, and 800000
	v.Getters = slices.Clone(v.Getters[:2])
	v.Getters[0].Part, v.Getters[1].Part, g.Room = one(999999), all, g.Room[:2]
	if x := ticked(t, v, g, stages[0]); !slices.Equal(x.Free, want) || x.Room[0] != none || x.Room[1] != none {
		t.Error(x)
	}
	// No two suspects are in the same tests.
	var h api.Hunt
	h.Suspects = 12
	for n := range 12 {
		h.Trials = append(h.Trials, test(1000-n, n))
	}
	if cost, trial, e := Worst(h, everyone(h)); cost != 10934 || trial != 1 || e != api.OK {
		t.Error(cost, trial, e)
	}
}

// R4: arguments are not changed.
func TestArgumentsAreKept(t *testing.T) {
	systems(t, 70, 600, func(d *dice, v api.Vacuum, s kind) {
		g, l := d.gas(v, s), d.stages(v, 3, 4)
		b := d.stage(v, 5)
		was, gas, stage := copyOf(v), copyOfGas(g), slices.Clone(b.Shut)
		var shut [][]int
		for _, x := range l {
			shut = append(shut, slices.Clone(x.Shut))
		}
		Check(v)
		Begin(v)
		Belongs(v, g)
		CheckStage(v, b)
		Tick(v, g, b)
		Run(v, l)
		Pressure(v, g, 0)
		Seal(v, g, 0, 5)
		Peak(v, l, 0)
		Hold(v, l, 0, 5)
		if !sameSystem(v, was) || !sameGas(g, gas) || !slices.Equal(b.Shut, stage) {
			t.Error(v, g, b, was, gas, stage)
		}
		for i, x := range l {
			if !slices.Equal(x.Shut, shut[i]) {
				t.Error(l, shut)
			}
		}
	})
	hunts(t, 71, 600, 12, 12, func(d *dice, h api.Hunt) {
		l := d.some(h)
		was, suspects := copyOfHunt(h), slices.Clone(l)
		CheckHunt(h)
		Worst(h, l)
		Find(h, 0)
		if !sameHunt(h, was) || !slices.Equal(l, suspects) {
			t.Error(h, l, was, suspects)
		}
	})
}

// spoil changes all ranges of gas.
func spoil(g api.Gas) {
	for _, l := range [][]api.Range{g.Free, g.Bound, g.Room} {
		for n := range l {
			l[n] = one(777)
		}
	}
}

// R4, R6: results are apart from arguments and from each other, also where nothing changes; a call depends on its arguments alone.
func TestResultsAreApart(t *testing.T) {
	systems(t, 72, 300, func(d *dice, v api.Vacuum, s kind) {
		g, b, l := d.gas(v, s), d.stage(v, 5), d.stages(v, 2, 2)
		was, gas := copyOf(v), copyOfGas(g)
		for _, make := range []func() (api.Gas, api.Errno){
			func() (api.Gas, api.Errno) { return Begin(v) },
			func() (api.Gas, api.Errno) { return Tick(v, g, b) },
			func() (api.Gas, api.Errno) { return Tick(v, g, api.Bake{}) },
			func() (api.Gas, api.Errno) { return Run(v, l) },
			func() (api.Gas, api.Errno) { return Run(v, nil) },
		} {
			first, _ := make()
			kept := copyOfGas(first)
			second, _ := make()
			spoil(first)
			third, e := make()
			if e != api.OK || !sameGas(second, kept) || !sameGas(third, kept) || !sameSystem(v, was) || !sameGas(g, gas) {
				t.Error(kept, second, third, e)
			}
			// The ranges of a result are apart from each other.
			for i := range third.Free {
				third.Free[i] = one(1)
				if third.Bound[i] != kept.Bound[i] {
					t.Error(third, kept)
				}
			}
			if !slices.Equal(third.Room, kept.Room) {
				t.Error(third, kept)
			}
		}
	})
	for range 3 {
		l, cost, e := Find(huntH(), 0)
		if !slices.Equal(l, []api.Try{{Trial: 1, In: true}, {Trial: 0, In: true}}) || cost != 2 || e != api.OK {
			t.Error(l, cost, e)
		}
		l[0], l[1] = api.Try{}, api.Try{}
	}
}

// R4: nil slices and empty ones are equal.
func TestEmptySlices(t *testing.T) {
	v := api.Vacuum{Vessels: []api.Vessel{{Volume: 1, Free: one(7), Bound: one(5), Bands: []api.Release{}}}, Pipes: []api.Pipe{}, Pumps: []api.Pump{}, Leaks: []api.Inlet{}, Getters: []api.Getter{}}
	w := api.Vacuum{Vessels: []api.Vessel{{Volume: 1, Free: one(7), Bound: one(5)}}}
	l := []api.Bake{{Ticks: 2, Shut: []int{}}}
	g := ran(t, v, l)
	if !sameGas(g, ran(t, w, []api.Bake{{Ticks: 2}})) || !sameGas(g, api.Gas{Free: ranges(one(7)), Bound: ranges(one(5)), Most: 12}) {
		t.Error(g)
	}
	g.Room = []api.Range{}
	if x := ticked(t, w, g, l[0]); !sameGas(x, g) {
		t.Error(x)
	}
	if cost, trial, e := Worst(huntOf(2, test(1), api.Trial{Of: []int{}}), []int{0, 1}); cost != 0 || trial != 0 || e != api.ErrUnsure {
		t.Error(cost, trial, e)
	}
}
