package glass

import (
	"iter"

	"thermion/api"
)

// Mismatch returns the mismatch, at a heat, of a seal of two stuffs that was set at another one.
func Mismatch(x, y api.Stuff, set, heat int) (api.Range, api.Errno) {
	if e := checkSeal(x, y, set, heat); e != api.OK {
		return api.Range{}, e
	}
	return less(growth(x, set, heat), growth(y, set, heat)), api.OK
}

// Seal returns the verdict on a seal of two stuffs that was set at a heat, from a lesser heat on, and its heat.
func Seal(x, y api.Stuff, set, from int) (verdict, heat int, e api.Errno) {
	if e := checkSeal(x, y, set, from); e != api.OK {
		return 0, 0, e
	}
	if from > set {
		return 0, 0, api.ErrRange
	}
	verdict, heat = judge(mismatches(x, y, set, from))
	return verdict, heat, api.OK
}

// checkSeal returns the first error of two stuffs and two heats, otherwise OK.
func checkSeal(x, y api.Stuff, set, heat int) api.Errno {
	if e := Check(x); e != api.OK {
		return e
	}
	if e := Check(y); e != api.OK {
		return e
	}
	if !isHeat(set) || !isHeat(heat) {
		return api.ErrRange
	}
	return api.OK
}

// mismatch is the mismatch of a seal at a heat, and the seal's limit, on either side of 0.
type mismatch struct {
	api.Range
	limit int
}

func (m mismatch) surelyHolds() bool  { return m.Lo >= -m.limit && m.Hi <= m.limit }
func (m mismatch) surelyBreaks() bool { return m.Lo > m.limit || m.Hi < -m.limit }

// mismatches goes down from the heat at which a seal was set, so that the greatest heats come first, and yields each heat with its mismatch.
func mismatches(x, y api.Stuff, set, from int) iter.Seq2[int, mismatch] {
	return func(yield func(heat int, m mismatch) bool) {
		m := mismatch{limit: min(x.Break, y.Break)}
		if !yield(set, m) {
			return
		}
		for t, z := range zonesDown(x, set, from) {
			m.Range = plus(m.Range, less(zoneOf(y, t).Grow, z.Grow)) // what both shrink in a kelvin
			if !yield(t, m) {
				return
			}
		}
	}
}

// Matches returns the numbers of the stuffs whose seal with y surely holds, ascending.
func Matches(l []api.Stuff, y api.Stuff, set, from int) ([]int, api.Errno) {
	if len(l) > api.MaxStuffs {
		return nil, api.ErrFull
	}
	var sure []int
	for i, x := range l {
		said, _, e := Seal(x, y, set, from)
		if e != api.OK {
			return nil, e
		}
		if said == api.Sure {
			sure = append(sure, i)
		}
	}
	return sure, api.OK
}
