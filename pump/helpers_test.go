package pump

import (
	"slices"
	"testing"

	"thermion/api"
)

// dice makes numbers for tests that are the same in each run.
type dice uint64

// upTo returns a number from 0 to n - 1.
func (d *dice) upTo(n int) int {
	*d += 0x9e3779b97f4a7c15
	x := uint64(*d)
	x = (x ^ x>>30) * 0xbf58476d1ce4e5b9
	x = (x ^ x>>27) * 0x94d049bb133111eb
	return int((x ^ x>>31) % uint64(n))
}

// from returns a number from least to most.
func (d *dice) from(least, most int) int { return least + d.upTo(most-least+1) }

// any returns a range of numbers from least to most, at times of one number.
func (d *dice) any(least, most int) api.Range {
	a, b := d.from(least, most), d.from(least, most)
	if d.upTo(4) == 0 {
		b = a
	}
	return of(min(a, b), max(a, b))
}

// in returns a range within r.
func (d *dice) in(r api.Range) api.Range { return d.any(r.Lo, r.Hi) }

// of a range returns one of its numbers, often its first or last one.
func (d *dice) of(r api.Range) int { return []int{r.Lo, r.Hi, d.from(r.Lo, r.Hi)}[d.upTo(3)] }

// kind is what systems are like: how many vessels they have at most, how many pipes and other parts, how much gas, and of which steps parts are.
type kind struct{ vessels, parts, gas, step int }

// part returns a range of a part that is at most, or all or nothing of it; all numbers are multiples of the step.
func (d *dice) part(s kind, most int) api.Range {
	most /= s.step
	r := d.any(0, most)
	switch d.upTo(8) {
	case 0:
		r = none
	case 1:
		r = one(most)
	case 2:
		r = d.any(0, most/100)
	}
	return of(r.Lo*s.step, r.Hi*s.step)
}

// vessel returns a valid vessel.
func (d *dice) vessel(s kind) api.Vessel {
	x := api.Vessel{Volume: d.from(1, []int{1, 8, 1000}[d.upTo(3)]), Free: d.any(0, s.gas), Bound: d.any(0, s.gas)}
	at := d.upTo(300)
	for range d.upTo(4) {
		x.Bands = append(x.Bands, band(at, d.part(s, api.Million)))
		at += d.from(1, 300)
	}
	return x
}

// system returns a valid system of a kind.
func (d *dice) system(s kind) api.Vacuum {
	var v api.Vacuum
	for range d.from(1, s.vessels) {
		v.Vessels = append(v.Vessels, d.vessel(s))
	}
	count := len(v.Vessels)
	left := make([]int, count) // of each vessel's gas
	goes := func(n int) api.Range {
		r := d.part(s, left[n])
		left[n] -= r.Hi
		return r
	}
	for n := range left {
		left[n] = api.Million
	}
	for range d.upTo(s.parts + 1) {
		if a, b := d.upTo(count), d.upTo(count); a != b {
			v.Pipes = append(v.Pipes, pipe(a, b, goes(a), goes(b)))
		}
	}
	for range d.upTo(s.parts/2 + 1) {
		n := d.upTo(count)
		v.Pumps = append(v.Pumps, api.Pump{At: n, Part: goes(n)})
	}
	for range d.upTo(s.parts/2 + 1) {
		v.Leaks = append(v.Leaks, api.Inlet{At: d.upTo(count), Gas: d.any(0, min(s.gas/4, api.MaxLeak))})
	}
	for range d.upTo(s.parts/2 + 1) {
		v.Getters = append(v.Getters, api.Getter{At: d.upTo(count), Part: d.part(s, api.Million), Room: d.any(0, s.gas)})
	}
	return v
}

// stage returns a valid stage for a system, of at most so many ticks.
func (d *dice) stage(v api.Vacuum, most int) api.Bake {
	s := api.Bake{Ticks: d.upTo(most + 1), Heat: d.upTo(1200), Flash: d.upTo(3) == 0}
	for n := range v.Pipes {
		if d.upTo(3) == 0 {
			s.Shut = append(s.Shut, n)
		}
	}
	return s
}

// stages returns valid stages for a system, at most so many of at most so many ticks.
func (d *dice) stages(v api.Vacuum, most, ticks int) []api.Bake {
	var l []api.Bake
	for range d.upTo(most + 1) {
		l = append(l, d.stage(v, ticks))
	}
	return l
}

// gas returns gas that belongs to a system; its Most is at least the sum of all Lo.
func (d *dice) gas(v api.Vacuum, s kind) api.Gas {
	g := api.Gas{Flashed: d.upTo(2) == 0}
	least, most := 0, 0
	for range v.Vessels {
		free, bound := d.any(0, s.gas), d.any(0, s.gas)
		g.Free, g.Bound = append(g.Free, free), append(g.Bound, bound)
		least, most = least+free.Lo+bound.Lo, most+free.Hi+bound.Hi
	}
	for range v.Getters {
		g.Room = append(g.Room, d.any(0, s.gas))
	}
	g.Most = min(d.of(of(least, most)), 1<<36)
	return g
}

// systemIn returns a system that lies within v.
func (d *dice) systemIn(v api.Vacuum) api.Vacuum {
	v = copyOf(v)
	for _, r := range rangesOf(&v) {
		*r = d.in(*r)
	}
	return v
}

// gasIn returns gas that lies within g, and whose Most is at least the sum of all Lo.
func (d *dice) gasIn(g api.Gas) api.Gas {
	in, least := copyOfGas(g), 0
	for _, l := range [][]api.Range{in.Free, in.Bound, in.Room} {
		for n, r := range l {
			l[n] = d.in(r)
		}
	}
	for n := range g.Free {
		least += in.Free[n].Lo + in.Bound[n].Lo
	}
	if least <= g.Most {
		in.Most = d.of(of(least, g.Most))
		return in
	}
	for n := range g.Free { // as little as there can be, which is not too much
		in.Free[n].Lo, in.Bound[n].Lo = g.Free[n].Lo, g.Bound[n].Lo
	}
	return in
}

// The kinds of systems.
var (
	smallKind = kind{3, 4, 20, 1}
	wideKind  = kind{8, 9, 100000, 1}
	greatKind = kind{8, 16, api.MaxGas, 1}
	exactKind = kind{4, 4, 12, 250000}
)

// systems calls f with valid systems of many kinds.
func systems(t *testing.T, seed dice, count int, f func(d *dice, v api.Vacuum, s kind)) {
	t.Helper()
	d := &seed
	for i := range count {
		s := []kind{smallKind, wideKind, greatKind, exactKind}[i%4]
		v := d.system(s)
		if e := Check(v); e != api.OK {
			t.Fatal(v, e)
		}
		f(d, v, s)
		if t.Failed() {
			t.Fatal("case ", i, ": ", v)
		}
	}
}

// floor and ceil divide by a number above 0, rounded towards one side.
func floor(a, b int) int { return (a - a%b) / b }

func ceil(a, b int) int {
	if a%b == 0 {
		return a / b
	}
	return floor(a, b) + 1
}

// plainRate looks at each band for the last one that is not above the heat.
func plainRate(x api.Vessel, heat int) api.Range {
	for _, b := range slices.Backward(x.Bands) {
		if b.From <= heat {
			return b.Rate
		}
	}
	return none
}

// plainFlow returns the free gas of a vessel after the flow, from that of all vessels before it.
func plainFlow(v api.Vacuum, free []api.Range, shut []int, own int) api.Range {
	stays, comes := one(1000000), none
	for n, p := range v.Pipes {
		switch {
		case slices.Contains(shut, n):
		case p.A == own:
			stays = of(stays.Lo-p.Out.Hi, stays.Hi-p.Out.Lo)
			comes = of(comes.Lo+p.Back.Lo*free[p.B].Lo, comes.Hi+p.Back.Hi*free[p.B].Hi)
		case p.B == own:
			stays = of(stays.Lo-p.Back.Hi, stays.Hi-p.Back.Lo)
			comes = of(comes.Lo+p.Out.Lo*free[p.A].Lo, comes.Hi+p.Out.Hi*free[p.A].Hi)
		}
	}
	for _, p := range v.Pumps {
		if p.At == own {
			stays = of(stays.Lo-p.Part.Hi, stays.Hi-p.Part.Lo)
		}
	}
	r := of(floor(free[own].Lo*stays.Lo+comes.Lo, 1000000), ceil(free[own].Hi*stays.Hi+comes.Hi, 1000000))
	for _, l := range v.Leaks {
		if l.At == own {
			r = of(r.Lo+l.Gas.Lo, r.Hi+l.Gas.Hi)
		}
	}
	return r
}

// plainTick follows the chapter vessel by vessel, each by itself.
func plainTick(v api.Vacuum, g api.Gas, s api.Bake) api.Gas {
	x := api.Gas{Most: g.Most, Flashed: g.Flashed || s.Flash}
	for _, l := range v.Leaks {
		x.Most += l.Gas.Hi
	}
	if x.Most > 1<<36 {
		x.Most = 1 << 36
	}
	var loose []api.Range
	for n, y := range v.Vessels {
		q, b := plainRate(y, s.Heat), g.Bound[n]
		loose = append(loose, of(g.Free[n].Lo+floor(b.Lo*q.Lo, 1000000), g.Free[n].Hi+ceil(b.Hi*q.Hi, 1000000)))
		x.Bound = append(x.Bound, of(floor(b.Lo*(1000000-q.Hi), 1000000), ceil(b.Hi*(1000000-q.Lo), 1000000)))
	}
	for n := range v.Vessels {
		x.Free = append(x.Free, plainFlow(v, loose, s.Shut, n))
	}
	for n, y := range v.Getters {
		r := g.Room[n]
		if x.Flashed {
			f := x.Free[y.At]
			most, least := ceil(f.Lo*y.Part.Hi, 1000000), floor(f.Hi*y.Part.Lo, 1000000)
			x.Free[y.At] = of(f.Lo-min(most, r.Hi), f.Hi-min(least, r.Lo))
			r = of(max(0, r.Lo-ceil(f.Hi*y.Part.Hi, 1000000)), max(0, r.Hi-floor(f.Lo*y.Part.Lo, 1000000)))
		}
		x.Room = append(x.Room, r)
	}
	for n := range v.Vessels {
		x.Free[n] = of(min(x.Free[n].Lo, x.Most), min(x.Free[n].Hi, x.Most))
		x.Bound[n] = of(min(x.Bound[n].Lo, x.Most), min(x.Bound[n].Hi, x.Most))
	}
	return x
}

// plainRun returns the gas at the beginning, and after each tick of stages.
func plainRun(v api.Vacuum, l []api.Bake) []api.Gas {
	var g api.Gas
	for _, x := range v.Vessels {
		g.Free, g.Bound, g.Most = append(g.Free, x.Free), append(g.Bound, x.Bound), g.Most+x.Free.Hi+x.Bound.Hi
	}
	for _, x := range v.Getters {
		g.Room = append(g.Room, x.Room)
	}
	all := []api.Gas{g}
	for _, s := range l {
		for range s.Ticks {
			g = plainTick(v, g, s)
			all = append(all, g)
		}
	}
	return all
}

// plainPressure divides the free gas of a vessel by its volume.
func plainPressure(v api.Vacuum, g api.Gas, n int) api.Range {
	return of(floor(1000*g.Free[n].Lo, v.Vessels[n].Volume), ceil(1000*g.Free[n].Hi, v.Vessels[n].Volume))
}

// hunt returns a valid hunt of at most so many suspects, with at most so many tests.
func (d *dice) hunt(suspects, trials int) api.Hunt {
	h := api.Hunt{Suspects: d.from(1, suspects)}
	dear := []int{0, 1, 5, api.MaxCost}[d.upTo(4)]
	for range d.upTo(trials + 1) {
		x := api.Trial{Cost: d.upTo(dear + 1)}
		for n := range h.Suspects {
			if d.upTo(2) == 0 {
				x.Of = append(x.Of, n)
			}
		}
		h.Trials = append(h.Trials, x)
	}
	return h
}

// some returns some suspects of a hunt, ascending, at least one.
func (d *dice) some(h api.Hunt) []int {
	l := []int{d.upTo(h.Suspects)}
	for n := range h.Suspects {
		if n != l[0] && d.upTo(4) > 0 {
			l = append(l, n)
		}
	}
	slices.Sort(l)
	return l
}

// hunts calls f with valid hunts of many kinds.
func hunts(t *testing.T, seed dice, count, suspects, trials int, f func(d *dice, h api.Hunt)) {
	t.Helper()
	d := &seed
	for i := range count {
		h := d.hunt(suspects, trials)
		f(d, h)
		if t.Failed() {
			t.Fatal("case ", i, ": ", h)
		}
	}
}

// parted returns the suspects of a list that are in a test, and those that are not.
func parted(l []int, x api.Trial) (in, out []int) {
	for _, n := range l {
		if slices.Contains(x.Of, n) {
			in = append(in, n)
		} else {
			out = append(out, n)
		}
	}
	return in, out
}

// plainWorst looks at all tests for all lists of suspects, time and again; the cost is never if the suspects can't be told apart.
func plainWorst(h api.Hunt, l []int) (cost, trial int) {
	if len(l) == 1 {
		return 0, -1
	}
	cost = never
	for n, x := range h.Trials {
		in, out := parted(l, x)
		if len(in) == 0 || len(out) == 0 {
			continue
		}
		a, _ := plainWorst(h, in)
		b, _ := plainWorst(h, out)
		if c := x.Cost + max(a, b); c < cost {
			cost, trial = c, n
		}
	}
	return min(cost, never), trial
}

// never is a cost that is too great for any hunt.
const never = 1000000

// of makes a range, one that of one number.
func of(lo, hi int) api.Range { return api.Range{Lo: lo, Hi: hi} }
func one(n int) api.Range     { return of(n, n) }

// none is the range that comes with errors.
var none api.Range

// band makes a band, pipe a pipe.
func band(from int, rate api.Range) api.Release { return api.Release{From: from, Rate: rate} }

func pipe(a, b int, out, back api.Range) api.Pipe {
	return api.Pipe{A: a, B: b, Out: out, Back: back}
}

// ranges makes a list of ranges.
func ranges(l ...api.Range) []api.Range { return l }

// systemV, systemW and huntH are the systems and the hunt of the chapter's examples.
func systemV() api.Vacuum {
	return api.Vacuum{Vessels: []api.Vessel{{Volume: 10, Free: one(1000)}}, Pumps: []api.Pump{{Part: one(500000)}}}
}

func systemW() api.Vacuum {
	return api.Vacuum{
		Vessels: []api.Vessel{{Volume: 1, Free: one(100), Bound: of(100, 200), Bands: []api.Release{band(500, of(100000, 200000))}}, {Volume: 2}},
		Pipes:   []api.Pipe{pipe(0, 1, of(400000, 500000), one(100000))},
		Leaks:   []api.Inlet{{At: 1, Gas: of(1, 2)}},
		Getters: []api.Getter{{At: 1, Part: one(500000), Room: of(10, 20)}},
	}
}

func huntH() api.Hunt { return huntOf(4, test(1, 0), test(1, 0, 1), test(1, 0, 1, 2)) }

// huntOf makes a hunt, test a test.
func huntOf(suspects int, l ...api.Trial) api.Hunt { return api.Hunt{Suspects: suspects, Trials: l} }

func test(cost int, of ...int) api.Trial { return api.Trial{Of: of, Cost: cost} }

// changed returns a thing that was changed.
func changed[T any](x T, change func(x *T)) T {
	change(&x)
	return x
}

// rangesOf returns all ranges of a system.
func rangesOf(v *api.Vacuum) []*api.Range {
	var l []*api.Range
	for i := range v.Vessels {
		l = append(l, &v.Vessels[i].Free, &v.Vessels[i].Bound)
		for k := range v.Vessels[i].Bands {
			l = append(l, &v.Vessels[i].Bands[k].Rate)
		}
	}
	for i := range v.Pipes {
		l = append(l, &v.Pipes[i].Out, &v.Pipes[i].Back)
	}
	for i := range v.Pumps {
		l = append(l, &v.Pumps[i].Part)
	}
	for i := range v.Leaks {
		l = append(l, &v.Leaks[i].Gas)
	}
	for i := range v.Getters {
		l = append(l, &v.Getters[i].Part, &v.Getters[i].Room)
	}
	return l
}

// copyOf returns a system with parts of its own.
func copyOf(v api.Vacuum) api.Vacuum {
	v.Vessels = slices.Clone(v.Vessels)
	for i, x := range v.Vessels {
		v.Vessels[i].Bands = slices.Clone(x.Bands)
	}
	v.Pipes, v.Pumps, v.Leaks, v.Getters = slices.Clone(v.Pipes), slices.Clone(v.Pumps), slices.Clone(v.Leaks), slices.Clone(v.Getters)
	return v
}

// copyOfGas returns gas with ranges of its own.
func copyOfGas(g api.Gas) api.Gas {
	g.Free, g.Bound, g.Room = slices.Clone(g.Free), slices.Clone(g.Bound), slices.Clone(g.Room)
	return g
}

// copyOfHunt returns a hunt with tests of its own.
func copyOfHunt(h api.Hunt) api.Hunt {
	h.Trials = slices.Clone(h.Trials)
	for i, x := range h.Trials {
		h.Trials[i].Of = slices.Clone(x.Of)
	}
	return h
}

// sameSystem reports whether two systems are equal.
func sameSystem(a, b api.Vacuum) bool {
	return slices.EqualFunc(a.Vessels, b.Vessels, func(x, y api.Vessel) bool {
		return x.Volume == y.Volume && x.Free == y.Free && x.Bound == y.Bound && slices.Equal(x.Bands, y.Bands)
	}) && slices.Equal(a.Pipes, b.Pipes) && slices.Equal(a.Pumps, b.Pumps) && slices.Equal(a.Leaks, b.Leaks) && slices.Equal(a.Getters, b.Getters)
}

// sameGas reports whether two gases are equal.
func sameGas(a, b api.Gas) bool {
	return slices.Equal(a.Free, b.Free) && slices.Equal(a.Bound, b.Bound) && slices.Equal(a.Room, b.Room) && a.Most == b.Most && a.Flashed == b.Flashed
}

// sameHunt reports whether two hunts are equal.
func sameHunt(a, b api.Hunt) bool {
	return a.Suspects == b.Suspects && slices.EqualFunc(a.Trials, b.Trials, func(x, y api.Trial) bool {
		return x.Cost == y.Cost && slices.Equal(x.Of, y.Of)
	})
}

// isRangeIn reports whether a range lies within another one.
func isRangeIn(a, b api.Range) bool { return b.Lo <= a.Lo && a.Hi <= b.Hi }

// isGasIn reports whether gas lies within other gas.
func isGasIn(a, b api.Gas) bool {
	in := func(x, y []api.Range) bool { return slices.EqualFunc(x, y, isRangeIn) }
	return in(a.Free, b.Free) && in(a.Bound, b.Bound) && in(a.Room, b.Room) && a.Most <= b.Most && a.Flashed == b.Flashed
}

// begun returns the gas of a system at the beginning; that must not be an error.
func begun(t *testing.T, v api.Vacuum) api.Gas {
	t.Helper()
	g, e := Begin(v)
	if e != api.OK {
		t.Fatal(v, e)
	}
	return g
}

// ticked returns the result of Tick, which must not be an error.
func ticked(t *testing.T, v api.Vacuum, g api.Gas, s api.Bake) api.Gas {
	t.Helper()
	x, e := Tick(v, g, s)
	if e != api.OK {
		t.Fatal(v, g, s, e)
	}
	return x
}

// ran returns the result of Run, which must not be an error.
func ran(t *testing.T, v api.Vacuum, l []api.Bake) api.Gas {
	t.Helper()
	g, e := Run(v, l)
	if e != api.OK {
		t.Fatal(v, l, e)
	}
	return g
}

// pressed returns the result of Pressure, which must not be an error.
func pressed(t *testing.T, v api.Vacuum, g api.Gas, n int) api.Range {
	t.Helper()
	r, e := Pressure(v, g, n)
	if e != api.OK {
		t.Fatal(v, g, n, e)
	}
	return r
}

// sealed returns the result of Seal, which must not be an error.
func sealed(t *testing.T, v api.Vacuum, g api.Gas, n, limit int) int {
	t.Helper()
	said, e := Seal(v, g, n, limit)
	if e != api.OK {
		t.Fatal(v, g, n, limit, e)
	}
	return said
}

// fault is a change that makes a thing wrong, and the error that it has then.
type fault[T any] struct {
	change func(x *T)
	want   api.Errno
}

// inOrder demands that each fault of a right thing is found, and the first one of two.
func inOrder[T any](t *testing.T, right func() T, faults []fault[T], check func(x T) api.Errno) {
	t.Helper()
	if e := check(right()); e != api.OK {
		t.Error(e)
	}
	for i, a := range faults {
		if e := check(changed(right(), a.change)); e != a.want {
			t.Error(i, e)
		}
		for k, b := range faults[i+1:] {
			if e := check(changed(changed(right(), b.change), a.change)); e != a.want {
				t.Error(i, i+1+k, e)
			}
		}
	}
}
