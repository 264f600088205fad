package pump

import (
	"slices"

	"thermion/api"
)

// CheckStage returns the first error of a system, or of a stage for it, otherwise OK.
func CheckStage(v api.Vacuum, s api.Bake) api.Errno {
	if e := Check(v); e != api.OK {
		return e
	}
	return checkStage(v, s)
}

// checkStage is CheckStage for a system that is valid.
func checkStage(v api.Vacuum, s api.Bake) api.Errno {
	if !within(s.Ticks, 0, api.MaxPump) || !isHeat(s.Heat) {
		return api.ErrRange
	}
	return checkNumbers(s.Shut, len(v.Pipes))
}

// checkNumbers returns the first error of ascending numbers from 0 on that are less than below, otherwise OK.
func checkNumbers(l []int, below int) api.Errno {
	for i, n := range l {
		if !within(n, 0, below-1) {
			return api.ErrMissing
		}
		if i > 0 && n <= l[i-1] {
			return api.ErrOrder
		}
	}
	return api.OK
}

// Tick returns what the gas of a system is after one tick of a stage.
func Tick(v api.Vacuum, g api.Gas, s api.Bake) (api.Gas, api.Errno) {
	if e := Belongs(v, g); e != api.OK {
		return api.Gas{}, e
	}
	if e := checkStage(v, s); e != api.OK {
		return api.Gas{}, e
	}
	return after(v, g, s), api.OK
}

// tick is a tick of a stage in a system, with what the gas has become so far.
//
// No number in it is too great for its type: each of at most 8 vessels has at most 2^36 of free and as much of bound gas, so that all of them have at most 2^40, times a Million less than 2^60.
type tick struct {
	system api.Vacuum
	stage  api.Bake
	gas    api.Gas
}

// after is Tick for arguments that are valid.
func after(v api.Vacuum, g api.Gas, s api.Bake) api.Gas {
	g.Free, g.Bound, g.Room = slices.Clone(g.Free), slices.Clone(g.Bound), slices.Clone(g.Room)
	t := tick{v, s, g}
	for _, step := range []func(t *tick){(*tick).start, (*tick).release, (*tick).flow, (*tick).bind, (*tick).cut} {
		step(&t)
	}
	return t.gas
}

// start flashes the getters, and lets Most grow by what may leak in.
func (t *tick) start() {
	t.gas.Flashed = t.gas.Flashed || t.stage.Flash
	for _, l := range t.system.Leaks {
		t.gas.Most += l.Gas.Hi
	}
	t.gas.Most = min(t.gas.Most, mostGas)
}

// release sets bound gas free.
func (t *tick) release() {
	for n, x := range t.system.Vessels {
		rate, bound := rateAt(x.Bands, t.stage.Heat), t.gas.Bound[n]
		t.gas.Free[n] = plus(t.gas.Free[n], perMillion(times(bound, rate)))
		t.gas.Bound[n] = perMillion(times(bound, rest(rate)))
	}
}

// rateAt returns the rate at which gas is set free at a heat.
func rateAt(bands []api.Release, heat int) api.Range {
	var rate api.Range
	for _, b := range bands {
		if b.From <= heat { // the last one counts
			rate = b.Rate
		}
	}
	return rate
}

// flow lets free gas go from vessel to vessel, out through pumps and in through leaks.
func (t *tick) flow() {
	free, out := t.gas.Free, goingOut(t.system, t.stage.Shut)
	sums := map[int]api.Range{} // millionths of what each vessel has then (outside, too, but nobody asks for that)
	for n := range free {
		sums[n] = times(free[n], rest(out[n]))
	}
	for f := range flows(t.system, t.stage.Shut) {
		sums[f.to] = plus(sums[f.to], times(free[f.from], f.part))
	}
	for n := range free {
		free[n] = perMillion(sums[n])
	}
	for _, l := range t.system.Leaks {
		free[l.At] = plus(free[l.At], l.Gas)
	}
}

// bind lets getters that were flashed bind free gas, one after the other.
func (t *tick) bind() {
	if !t.gas.Flashed {
		return
	}
	for n, x := range t.system.Getters {
		free, room := t.gas.Free[x.At], t.gas.Room[n]
		asked := perMillion(times(free, x.Part)) // what is bound if there is room enough
		t.gas.Room[n] = api.Range{Lo: max(0, room.Lo-asked.Hi), Hi: max(0, room.Hi-asked.Lo)}
		free.Lo -= min(up(free.Lo*x.Part.Hi), room.Hi)   // of the least gas as much is bound as can be
		free.Hi -= min(down(free.Hi*x.Part.Lo), room.Lo) // of the greatest amount as little
		t.gas.Free[x.At] = free
	}
}

// cut brings all gas down to what there is in all vessels together.
func (t *tick) cut() {
	for n := range t.system.Vessels {
		t.gas.Free[n] = atMost(t.gas.Free[n], t.gas.Most)
		t.gas.Bound[n] = atMost(t.gas.Bound[n], t.gas.Most)
	}
}

// atMost returns the bounds of a number in which no number is above most.
func atMost(r api.Range, most int) api.Range {
	return api.Range{Lo: min(r.Lo, most), Hi: min(r.Hi, most)}
}

// rest returns the part that is left of all if another part goes.
func rest(part api.Range) api.Range {
	return api.Range{Lo: api.Million - part.Hi, Hi: api.Million - part.Lo}
}

// times returns the bounds of a product of numbers that are not below 0.
func times(a, b api.Range) api.Range { return api.Range{Lo: a.Lo * b.Lo, Hi: a.Hi * b.Hi} }

// perMillion returns a number of millionths in whole numbers, rounded outwards.
func perMillion(r api.Range) api.Range { return api.Range{Lo: down(r.Lo), Hi: up(r.Hi)} }

// down returns a number of millionths, rounded down.
func down(n int) int { return n / api.Million }

// up returns a number of millionths, rounded up.
func up(n int) int { return (n + api.Million - 1) / api.Million }
