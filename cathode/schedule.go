package cathode

import (
	"iter"

	"thermion/api"
)

// CheckSchedule returns the first error of a schedule, otherwise OK.
func CheckSchedule(l []api.Heating) api.Errno {
	if len(l) > api.MaxSteps {
		return api.ErrFull
	}
	for _, h := range l {
		if !within(h.Ticks, 1, api.MaxTicks) || !rightHeat(h.Heat) || !rightCurrent(h.Current) {
			return api.ErrRange
		}
	}
	if length(l) > api.MaxRun {
		return api.ErrLong
	}
	return api.OK
}

// length returns how many ticks a schedule has.
func length(l []api.Heating) int {
	n := 0
	for _, h := range l {
		n += h.Ticks
	}
	return n
}

// Follow returns what the fresh coating of a coat is after each heating of a schedule.
func Follow(c api.Coat, l []api.Heating) ([]api.Coating, api.Errno) {
	if e := Check(c); e != api.OK {
		return nil, e
	}
	if e := CheckSchedule(l); e != api.OK {
		return nil, e
	}
	x := fresh(c)
	var all []api.Coating
	for _, h := range l {
		for range h.Ticks {
			x = after(c, x, h.Heat, h.Current)
		}
		all = append(all, x)
	}
	return all, api.OK
}

// ticks gives the ticks of a schedule, counted from 1 on, each with its heating.
func ticks(l []api.Heating) iter.Seq2[int, api.Heating] {
	return func(yield func(int, api.Heating) bool) {
		n := 0
		for _, h := range l {
			for range h.Ticks {
				n++
				if !yield(n, h) {
					return
				}
			}
		}
	}
}

// Possible reports whether a coat and a schedule are valid, and a course is possible for them.
func Possible(c api.Coat, l []api.Heating, course []api.Mix) bool {
	if Check(c) != api.OK || CheckSchedule(l) != api.OK || len(course) != 1+length(l) {
		return false
	}
	if course[0] != (api.Mix{Carbonate: c.Amount}) {
		return false
	}
	heat := api.Room
	for n, h := range ticks(l) {
		heat = moved(heat, h.Heat, c.Slew)
		if !follows(course[n-1], course[n], ratesAt(c, heat, h.Current)) {
			return false
		}
	}
	return true
}

// follows reports whether a mix b may truly follow the mix a in a tick with these rates. A part of b is held against its bounds before it is taken from a number: it may be any number.
func follows(a, b api.Mix, rates api.Band) bool {
	if !isIn(b.Carbonate, remains(alone(a.Carbonate), rates.Convert)) {
		return false
	}
	converted := a.Carbonate - b.Carbonate
	if !isIn(b.Oxide, sum(remains(alone(a.Oxide), rates.Reduce), alone(converted))) {
		return false
	}
	reduced := a.Oxide + converted - b.Oxide
	if !isIn(b.Barium, sum(remains(alone(a.Barium), rates.Evaporate), alone(reduced))) {
		return false
	}
	evaporated := a.Barium + reduced - b.Barium
	return b.Lost == a.Lost+evaporated
}

// alone returns the range of one number.
func alone(n int) api.Range { return api.Range{Lo: n, Hi: n} }

// isIn reports whether a number lies within a range.
func isIn(n int, r api.Range) bool { return within(n, r.Lo, r.Hi) }
