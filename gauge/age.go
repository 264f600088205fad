package gauge

import (
	"sort"

	"thermion/api"
)

// driftTicks is for how many ticks a drift is said.
const driftTicks = 1000

// Aged returns what a range that drifts has become after some ticks.
func Aged(r, drift api.Range, ticks int) (api.Range, api.Errno) {
	if e := checkDrift(r, drift); e != api.OK {
		return api.Range{}, e
	}
	if !within(ticks, 0, api.MaxKeep) {
		return api.Range{}, api.ErrRange
	}
	return aged(r, drift, ticks), api.OK
}

// checkDrift returns the first error of a range and its drift, otherwise OK.
func checkDrift(r, drift api.Range) api.Errno {
	if !bothWithin(r, -api.MaxShow, api.MaxShow) || !bothWithin(drift, -api.MaxDrift, api.MaxDrift) {
		return api.ErrRange
	}
	if isEmpty(r) || isEmpty(drift) {
		return api.ErrOrder
	}
	return api.OK
}

// aged is Aged for arguments that are valid.
func aged(r, drift api.Range, ticks int) api.Range {
	return api.Range{Lo: r.Lo + roundDown(ticks*drift.Lo, driftTicks), Hi: r.Hi + roundUp(ticks*drift.Hi, driftTicks)}
}

// Keeps returns up to which ticks a range that drifts surely keeps limits, and may keep them.
func Keeps(r, drift, limits api.Range) (api.Range, api.Errno) {
	if e := checkDrift(r, drift); e != api.OK {
		return api.Range{}, e
	}
	if e := checkRange(limits, -api.MaxShow, api.MaxShow); e != api.OK {
		return api.Range{}, e
	}
	after := func(ticks int) int { return Verdict(aged(r, drift, ticks), limits) }
	return api.Range{
		Lo: lastTick(func(ticks int) bool { return after(ticks) == api.Sure }),
		Hi: lastTick(func(ticks int) bool { return after(ticks) != api.Never }),
	}, api.OK
}

// lastTick returns the greatest number of ticks up to which a range holds; -1 if it does not at the beginning. Each end of a range goes one way alone: if the range held at the beginning, and does no longer, it does not again.
func lastTick(holds func(ticks int) bool) int {
	if !holds(0) {
		return -1
	}
	return sort.Search(api.MaxKeep, func(i int) bool { return !holds(i + 1) })
}
