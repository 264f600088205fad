package gauge

import (
	"thermion/api"
	"thermion/curve"
)

// nowhere is the place of a sheet on which the verdict is Sure.
const nowhere = -1

// Verdict returns the verdict on a range in limits; 0 if one of both has no number.
func Verdict(r, limits api.Range) int {
	switch {
	case isEmpty(r) || isEmpty(limits):
		return 0
	case limits.Lo <= r.Lo && r.Hi <= limits.Hi:
		return api.Sure
	case isEmpty(common(r, limits)):
		return api.Never
	}
	return api.Unsure
}

// Together returns the range of what numbers that were shown say together.
func Together(bench []api.Meter, l []api.Shown) (api.Range, api.Errno) {
	if e := Check(bench); e != api.OK {
		return api.Range{}, e
	}
	if len(l) == 0 {
		return api.Range{}, api.ErrShort
	}
	if len(l) > api.MaxShown {
		return api.Range{}, api.ErrFull
	}
	all := values
	for _, s := range l {
		r, e := True(bench, s.Meter, s.Number)
		if e != api.OK {
			return api.Range{}, e
		}
		all = common(all, r)
	}
	if isEmpty(all) {
		return api.Range{}, api.ErrClash
	}
	return all, api.OK
}

// test is a test of a sheet: its limits, and the numbers that were shown.
type test struct {
	limits api.Range
	shown  []api.Shown
}

// Sheet returns the verdict of a sheet at a tick, and its place.
func Sheet(bench []api.Meter, tick int, limits []api.Range, l [][]api.Shown) (verdict, place int, e api.Errno) {
	if e := Check(bench); e != api.OK {
		return 0, 0, e
	}
	if !isTick(tick) {
		return 0, 0, api.ErrRange
	}
	if len(limits) > api.MaxTests {
		return 0, 0, api.ErrFull
	}
	if len(l) != len(limits) {
		return 0, 0, api.ErrForm
	}
	var tests []test
	for i, r := range limits {
		tests = append(tests, test{r, l[i]})
	}
	return judge(tests, func(t test) (int, api.Errno) { return judgeTest(bench, tick, t) })
}

// Points returns the verdict of a tube's points in a family at a tick, and its place.
func Points(bench []api.Meter, tick int, f api.Family, l []api.Point) (verdict, place int, e api.Errno) {
	if e := Check(bench); e != api.OK {
		return 0, 0, e
	}
	if e := curve.Check(f); e != api.OK {
		return 0, 0, e
	}
	if !isTick(tick) {
		return 0, 0, api.ErrRange
	}
	if len(l) > api.MaxTests {
		return 0, 0, api.ErrFull
	}
	return judge(l, func(p api.Point) (int, api.Errno) {
		limits, e := curve.At(f, p.Grid, p.Plate)
		if e != api.OK {
			return 0, e
		}
		return judgeTest(bench, tick, test{limits, p.Shown})
	})
}

// isTick reports whether a number is a tick at which meters may be used.
func isTick(n int) bool { return within(n, 0, api.MaxDue) }

// judgeTest returns the verdict of a test with meters of a valid bench, at a tick.
func judgeTest(bench []api.Meter, tick int, t test) (int, api.Errno) {
	if isEmpty(t.limits) {
		return 0, api.ErrOrder
	}
	if len(t.shown) > api.MaxShown {
		return 0, api.ErrFull
	}
	if e := checkUse(bench, tick, t.shown); e != api.OK {
		return 0, e
	}
	if len(t.shown) == 0 { // nothing is known of the value
		return api.Unsure, api.OK
	}
	r, e := Together(bench, t.shown)
	if e != api.OK {
		return 0, e
	}
	return Verdict(r, t.limits), api.OK
}

// checkUse returns the first error of the meters that showed numbers at a tick, otherwise OK.
func checkUse(bench []api.Meter, tick int, l []api.Shown) api.Errno {
	for _, s := range l {
		if !isMeter(bench, s.Meter) {
			return api.ErrMissing
		}
		if bench[s.Meter].Due < tick {
			return api.ErrState
		}
	}
	return api.OK
}

// judge puts the verdicts on the things of a slice together: it returns the worst one, and the place of the first thing with it. The first error that there is on a thing ends it.
func judge[T any](things []T, on func(thing T) (int, api.Errno)) (verdict, place int, e api.Errno) {
	verdict, place = api.Sure, nowhere
	for i, x := range things {
		v, e := on(x)
		if e != api.OK {
			return 0, 0, e
		}
		if isWorse(v, verdict) {
			verdict, place = v, i
		}
	}
	return verdict, place, api.OK
}

// isWorse reports whether a verdict is worse than another one: Never is worse than Unsure, and this than Sure.
func isWorse(verdict, than int) bool {
	return verdict != than && (verdict == api.Never || than == api.Sure)
}
