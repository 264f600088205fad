package pump

import (
	"slices"

	"thermion/api"
)

// mostGas is the greatest number that gas may have in all.
const mostGas = 1 << 36

// Begin returns the gas of a system at the beginning.
func Begin(v api.Vacuum) (api.Gas, api.Errno) {
	if e := Check(v); e != api.OK {
		return api.Gas{}, e
	}
	return begin(v), api.OK
}

// begin is Begin for a system that is valid.
func begin(v api.Vacuum) api.Gas {
	var g api.Gas
	for _, x := range v.Vessels {
		g.Free = append(g.Free, x.Free)
		g.Bound = append(g.Bound, x.Bound)
		g.Most += x.Free.Hi + x.Bound.Hi
	}
	for _, x := range v.Getters {
		g.Room = append(g.Room, x.Room)
	}
	return g
}

// Belongs returns the first error of a system, or of gas that should belong to it, otherwise OK.
func Belongs(v api.Vacuum, g api.Gas) api.Errno {
	if e := Check(v); e != api.OK {
		return e
	}
	if len(g.Free) != len(v.Vessels) || len(g.Bound) != len(v.Vessels) || len(g.Room) != len(v.Getters) {
		return api.ErrForm
	}
	if e := checkRanges(mostGas, slices.Concat(g.Free, g.Bound, g.Room)...); e != api.OK {
		return e
	}
	if !within(g.Most, 0, mostGas) {
		return api.ErrRange
	}
	return api.OK
}

// Pressure returns the pressure of a vessel of a system with gas.
func Pressure(v api.Vacuum, g api.Gas, vessel int) (api.Range, api.Errno) {
	if e := Belongs(v, g); e != api.OK {
		return api.Range{}, e
	}
	if !isVessel(v, vessel) {
		return api.Range{}, api.ErrMissing
	}
	return pressure(v, g, vessel), api.OK
}

// pressure is Pressure for arguments that are valid.
func pressure(v api.Vacuum, g api.Gas, vessel int) api.Range {
	free, volume := g.Free[vessel], v.Vessels[vessel].Volume
	return api.Range{Lo: 1000 * free.Lo / volume, Hi: (1000*free.Hi + volume - 1) / volume}
}

// Seal returns the verdict on whether a vessel of a system with gas may be sealed at a limit.
func Seal(v api.Vacuum, g api.Gas, vessel, limit int) (int, api.Errno) {
	p, e := Pressure(v, g, vessel)
	if e != api.OK {
		return 0, e
	}
	if limit < 0 {
		return 0, api.ErrRange
	}
	return verdict(p, limit), api.OK
}

// verdict returns the verdict on whether a pressure is at most a limit.
func verdict(p api.Range, limit int) int {
	switch {
	case p.Hi <= limit:
		return api.Sure
	case p.Lo > limit:
		return api.Never
	}
	return api.Unsure
}
