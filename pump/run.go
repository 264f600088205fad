package pump

import (
	"iter"

	"thermion/api"
)

// Run returns the gas of a system after all ticks of stages.
func Run(v api.Vacuum, l []api.Bake) (api.Gas, api.Errno) {
	if e := checkRun(v, l); e != api.OK {
		return api.Gas{}, e
	}
	return last(v, l), api.OK
}

// checkRun returns the first error of a system, or of stages for it, otherwise OK.
func checkRun(v api.Vacuum, l []api.Bake) api.Errno {
	if e := Check(v); e != api.OK {
		return e
	}
	if len(l) > api.MaxBakes {
		return api.ErrFull
	}
	ticks := 0
	for _, s := range l {
		if e := checkStage(v, s); e != api.OK {
			return e
		}
		ticks += s.Ticks
	}
	if ticks > api.MaxPump {
		return api.ErrOver
	}
	return api.OK
}

// ticks yields gas, with the number 0, and what it has become after each tick of stages, numbered from 1 on.
func ticks(v api.Vacuum, g api.Gas, l []api.Bake) iter.Seq2[int, api.Gas] {
	return func(yield func(n int, g api.Gas) bool) {
		if !yield(0, g) {
			return
		}
		n := 0
		for _, s := range l {
			for range s.Ticks {
				n++
				g = after(v, g, s)
				if !yield(n, g) {
					return
				}
			}
		}
	}
}

// last is Run for arguments that are valid.
func last(v api.Vacuum, l []api.Bake) api.Gas {
	var found api.Gas
	for _, g := range ticks(v, begin(v), l) {
		found = g
	}
	return found
}

// checkVesselRun returns the first error of a system, of stages for it, or of a vessel, otherwise OK.
func checkVesselRun(v api.Vacuum, l []api.Bake, vessel int) api.Errno {
	if e := checkRun(v, l); e != api.OK {
		return e
	}
	if !isVessel(v, vessel) {
		return api.ErrMissing
	}
	return api.OK
}

// Peak returns the greatest pressure that a vessel may have at the beginning and after each tick of stages.
func Peak(v api.Vacuum, l []api.Bake, vessel int) (int, api.Errno) {
	if e := checkVesselRun(v, l, vessel); e != api.OK {
		return 0, e
	}
	most := 0
	for _, g := range ticks(v, begin(v), l) {
		most = max(most, pressure(v, g, vessel).Hi)
	}
	return most, api.OK
}

// Hold returns the least number of ticks of the last stage after which a vessel may be sealed for sure.
func Hold(v api.Vacuum, l []api.Bake, vessel, limit int) (int, api.Errno) {
	if e := checkVesselRun(v, l, vessel); e != api.OK {
		return 0, e
	}
	if limit < 0 {
		return 0, api.ErrRange
	}
	if len(l) == 0 {
		return 0, api.ErrShort
	}
	before, held := l[:len(l)-1], l[len(l)-1:]
	for n, g := range ticks(v, last(v, before), held) {
		if verdict(pressure(v, g, vessel), limit) == api.Sure {
			return n, api.OK
		}
	}
	return 0, api.ErrUnsure
}
