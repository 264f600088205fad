package field

import "thermion/api"

// bound is the lower or the upper bound of a potential: its number for each cell, and how it rounds a mean, so that it stays on its own side of what is true.
type bound struct {
	at    []int
	round func(n, by int) int
}

// newBound returns the bound that a plan has before any sweep: vacuum is at first.
func newBound(p api.Plan, volts []int, first int, round func(n, by int) int) bound {
	at := make([]int, len(p.Cells))
	for cell, e := range p.Cells {
		at[cell] = first
		if e != 0 {
			at[cell] = volts[e-1]
		}
	}
	return bound{at, round}
}

// sweep gives each vacuum cell the mean of its neighbours, cell by cell, so that a new number counts at once for the cells behind. It reports whether it changed a number.
func (b bound) sweep(p api.Plan) bool {
	changed := false
	for cell, e := range p.Cells {
		if e != 0 {
			continue
		}
		sum, weight := around(p, b.at, cell)
		n := b.round(sum, weight)
		changed = changed || n != b.at[cell]
		b.at[cell] = n
	}
	return changed
}

// around returns the sum of a cell's neighbours, each taken with the weight of both, and the sum of these weights.
func around(p api.Plan, at []int, cell int) (sum, weight int) {
	for n, w := range neighbours(p, cell) {
		sum += w * at[n]
		weight += w
	}
	return sum, weight
}

// Solve returns the bounds of the potential after so many sweeps, or after the first that changed nothing.
func Solve(p api.Plan, volts []int, sweeps int) (api.Field, api.Errno) {
	if e := CheckVolts(p, volts); e != api.OK {
		return api.Field{}, e
	}
	if e := checkSweeps(sweeps); e != api.OK {
		return api.Field{}, e
	}
	return solve(p, volts, sweeps), api.OK
}

// checkSweeps returns ErrRange if there can't be so many sweeps, otherwise OK.
func checkSweeps(sweeps int) api.Errno {
	if !within(sweeps, 0, api.MaxSweeps) {
		return api.ErrRange
	}
	return api.OK
}

// solve is Solve for arguments that are valid.
func solve(p api.Plan, volts []int, sweeps int) api.Field {
	least, greatest := ends(p, volts)
	low := newBound(p, volts, least, roundDown)
	high := newBound(p, volts, greatest, roundUp)
	f := api.Field{Low: low.at, High: high.at}
	for f.Sweeps < sweeps && !f.Still {
		lowMoved, highMoved := low.sweep(p), high.sweep(p)
		f.Still = !lowMoved && !highMoved
		f.Sweeps++
	}
	return f
}

// ends returns the least and the greatest voltage of the electrodes of a plan; voltages of numbers that are left out do not count.
func ends(p api.Plan, volts []int) (least, greatest int) {
	least, greatest = api.MaxVolt, -api.MaxVolt
	for _, e := range p.Cells {
		if e != 0 {
			least = min(least, volts[e-1])
			greatest = max(greatest, volts[e-1])
		}
	}
	return least, greatest
}

// Good reports whether a plan and its voltages are valid, low and high are numbers for its cells, and they are good bounds for it.
func Good(p api.Plan, volts, low, high []int) bool {
	if CheckVolts(p, volts) != api.OK || !bounds(p, low) || !bounds(p, high) {
		return false
	}
	for cell, e := range p.Cells {
		lowSum, weight := around(p, low, cell)
		highSum, _ := around(p, high, cell)
		if e != 0 { // an electrode is held against its voltage, not against its neighbours
			lowSum, highSum, weight = volts[e-1], volts[e-1], 1
		}
		if weight*low[cell] > lowSum || weight*high[cell] < highSum {
			return false
		}
	}
	return true
}

// bounds reports whether l has one number for each cell, each of which can be a voltage.
func bounds(p api.Plan, l []int) bool {
	return len(l) == len(p.Cells) && checkNumbers(l) == api.OK
}
