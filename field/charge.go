package field

import (
	"slices"

	"thermion/api"
)

// Charge returns the range of the charge of the electrode e, by the bounds that Solve finds.
func Charge(p api.Plan, volts []int, sweeps, e int) (api.Range, api.Errno) {
	f, err := Solve(p, volts, sweeps)
	if err != api.OK {
		return api.Range{}, err
	}
	if !has(p, e) {
		return api.Range{}, api.ErrMissing
	}
	return charge(p, f, e), api.OK
}

// charge returns the range of the charge of the electrode e. (Both bounds of a cell of an electrode are its voltage; the higher the potential beside it, the less is the charge.)
func charge(p api.Plan, f api.Field, e int) api.Range {
	var q api.Range
	for cell, c := range p.Cells {
		if c != e {
			continue
		}
		for n, weight := range neighbours(p, cell) {
			if p.Cells[n] != e {
				q.Lo += weight * (f.High[cell] - f.High[n])
				q.Hi += weight * (f.Low[cell] - f.Low[n])
			}
		}
	}
	return q
}

// Influence returns the range of the influence of the electrode a on the electrode k.
func Influence(p api.Plan, sweeps, a, k int) (api.Range, api.Errno) {
	if e := checkOf(p, sweeps, a, k); e != api.OK {
		return api.Range{}, e
	}
	return influence(p, sweeps, a, k), api.OK
}

// checkOf returns the first error of a plan, of the sweeps, and of numbers that have to be different electrodes of it, otherwise OK.
func checkOf(p api.Plan, sweeps int, of ...int) api.Errno {
	if e := Check(p); e != api.OK {
		return e
	}
	if e := checkSweeps(sweeps); e != api.OK {
		return e
	}
	for _, e := range of {
		if !has(p, e) {
			return api.ErrMissing
		}
	}
	for i, e := range of {
		if slices.Contains(of[:i], e) {
			return api.ErrExists
		}
	}
	return api.OK
}

// influence is Influence for arguments that are valid.
func influence(p api.Plan, sweeps, a, k int) api.Range {
	volts := make([]int, slices.Max(p.Cells))
	volts[a-1] = api.MaxVolt
	q := charge(p, solve(p, volts, sweeps), k)
	return api.Range{Lo: -q.Hi, Hi: -q.Lo}
}

// Amplification returns the range, in thousandths, of the amplification at k, of g against a.
func Amplification(p api.Plan, sweeps, k, g, a int) (api.Range, api.Errno) {
	if e := checkOf(p, sweeps, k, g, a); e != api.OK {
		return api.Range{}, e
	}
	plate := influence(p, sweeps, a, k)
	if plate.Lo < 1 { // it may be nothing, against which nothing can be held
		return api.Range{}, api.ErrState
	}
	grid := influence(p, sweeps, g, k)
	return api.Range{Lo: roundDown(1000*grid.Lo, plate.Hi), Hi: roundUp(1000*grid.Hi, plate.Lo)}, api.OK
}
