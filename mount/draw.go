package mount

import (
	"thermion/api"
	"thermion/field"
)

// CheckMount returns the first error of a mount, otherwise OK.
func CheckMount(m api.Mount) api.Errno {
	if e := CheckChain(m.Chain); e != api.OK {
		return e
	}
	if len(m.Bars) == 0 {
		return api.ErrShort
	}
	if len(m.Bars) > api.MaxBars {
		return api.ErrFull
	}
	if !within(m.Wide, 1, api.MaxSide) || !within(m.High, 1, api.MaxSide) || !within(m.Zero, 0, m.Wide) {
		return api.ErrRange
	}
	for _, b := range m.Bars {
		if e := checkBar(m, b); e != api.OK {
			return e
		}
	}
	return api.OK
}

// checkBar returns the first error of a bar of a mount, otherwise OK.
func checkBar(m api.Mount, b api.Bar) api.Errno {
	if !within(b.Electrode, 1, api.MaxElectrodes) {
		return api.ErrRange
	}
	if !isPoint(m.Chain, b.Left) || !isPoint(m.Chain, b.Right) {
		return api.ErrMissing
	}
	if b.Top > b.Bottom {
		return api.ErrOrder
	}
	if b.Top < 0 || b.Bottom >= m.High {
		return api.ErrRange
	}
	return api.OK
}

// Draw returns the plan of a mount with these positions.
func Draw(m api.Mount, at []int) (api.Plan, api.Errno) {
	if e := CheckMount(m); e != api.OK {
		return api.Plan{}, e
	}
	if !Fits(m.Chain, at) {
		return api.Plan{}, api.ErrState
	}
	p := api.Plan{Wide: m.Wide, High: m.High, Round: m.Round, Cells: make([]int, m.Wide*m.High)}
	for _, b := range m.Bars {
		if e := raise(p, b, column(m, at, b.Left), column(m, at, b.Right)); e != api.OK {
			return api.Plan{}, e
		}
	}
	if e := field.Check(p); e != api.OK {
		return api.Plan{}, e
	}
	return p, api.OK
}

// raise puts a bar into a plan, from the column left up to, but without, right.
func raise(p api.Plan, b api.Bar, left, right int) api.Errno {
	if left >= right {
		return api.ErrOrder
	}
	if left < 0 || right > p.Wide {
		return api.ErrRange
	}
	for row := b.Top; row <= b.Bottom; row++ {
		for cell := row*p.Wide + left; cell < row*p.Wide+right; cell++ {
			if p.Cells[cell] != 0 {
				return api.ErrExists
			}
			p.Cells[cell] = b.Electrode
		}
	}
	return api.OK
}

// column returns the column of a point. (Links lead to it from point 0, so that their difference is no great number.)
func column(m api.Mount, at []int, point int) int { return m.Zero + (at[point] - at[0]) }

// All returns the plans of a mount with all positions that fit its chain and have point 0 at 0.
func All(m api.Mount) ([]api.Plan, api.Errno) {
	if e := CheckMount(m); e != api.OK {
		return nil, e
	}
	places, e := Places(m.Chain)
	if e != api.OK {
		return nil, e
	}
	var plans []api.Plan
	for _, at := range places {
		p, e := Draw(m, at)
		if e != api.OK {
			return nil, e
		}
		plans = append(plans, p)
	}
	return plans, api.OK
}
