package curve

import (
	"sort"

	"thermion/api"
)

// nothing is the range that stands for all ranges without numbers.
var nothing = api.Range{Lo: 1, Hi: 0}

// Narrow returns a law narrowed by readings.
func Narrow(l api.Law, reads []api.Reading) (api.Law, api.Errno) {
	if e := CheckLaw(l); e != api.OK {
		return api.Law{}, e
	}
	if e := checkReads(reads); e != api.OK {
		return api.Law{}, e
	}
	for _, r := range reads {
		if !narrow(&l, r) {
			return api.Law{}, api.ErrClash
		}
	}
	return l, api.OK
}

// checkReads returns the first error of readings, otherwise OK.
func checkReads(reads []api.Reading) api.Errno {
	if len(reads) > api.MaxReads {
		return api.ErrFull
	}
	for _, r := range reads {
		if !rightGrid(r.Grid) || !rightPlate(r.Plate) {
			return api.ErrRange
		}
		if r.Current.Lo > r.Current.Hi {
			return api.ErrOrder
		}
	}
	return api.OK
}

// narrow narrows a law by a reading, one range after the other. It reports whether each of them has numbers left; it stops at the first one that has none.
func narrow(l *api.Law, r api.Reading) bool {
	for _, part := range []*api.Range{&l.Perv, &l.Gain, &l.Shift, &l.Full, &l.Part} {
		was := *part
		with := func(x int) api.Range { // the current with x alone in the place of the range
			*part = api.Range{Lo: x, Hi: x}
			return current(*l, r.Grid, r.Plate)
		}
		tooLow := func(x int) bool { return with(x).Hi < r.Current.Lo }
		tooHigh := func(x int) bool { return with(x).Lo > r.Current.Hi }
		if part == &l.Gain { // the greater it is, the less the plate counts
			tooLow, tooHigh = tooHigh, tooLow
		}
		if *part = kept(was, tooLow, tooHigh); *part == nothing {
			return false
		}
	}
	return true
}

// kept returns the numbers of r that are neither before nor behind what is looked for. What is before never is so again with a greater number, and what is behind remains so: both ends are found by halving.
func kept(r api.Range, before, behind func(x int) bool) api.Range {
	n := r.Hi - r.Lo + 1
	first := sort.Search(n, func(i int) bool { return !before(r.Lo + i) })
	end := sort.Search(n, func(i int) bool { return behind(r.Lo + i) })
	if first >= end {
		return nothing
	}
	return api.Range{Lo: r.Lo + first, Hi: r.Lo + end - 1}
}
