// Package pump finds between which amounts the gas in a vacuum system lies, tick by tick, while it is baked, pumped and gettered; says when a vessel may be sealed; and hunts leaks with the least cost in the worst case. It is layer 6: see shared/doc/06-pump.md.
package pump

import (
	"iter"
	"slices"

	"thermion/api"
)

// Check returns the first error of a system, otherwise OK.
func Check(v api.Vacuum) api.Errno {
	return firstError(v, checkCounts, checkVessels, checkPipes, checkBanks, checkOut)
}

// firstError returns the first error that checks find in a thing, otherwise OK. A check is made only if those before it found nothing.
func firstError[T any](thing T, checks ...func(thing T) api.Errno) api.Errno {
	for _, check := range checks {
		if e := check(thing); e != api.OK {
			return e
		}
	}
	return api.OK
}

// checkRanges returns the first error of ranges of numbers from 0 to most, otherwise OK.
func checkRanges(most int, ranges ...api.Range) api.Errno {
	for _, r := range ranges {
		if r.Lo > r.Hi {
			return api.ErrOrder
		}
		if r.Lo < 0 || r.Hi > most {
			return api.ErrRange
		}
	}
	return api.OK
}

// within reports whether n is a number from least to most.
func within(n, least, most int) bool { return least <= n && n <= most }

// isHeat reports whether a number is a heat.
func isHeat(n int) bool { return within(n, 0, api.MaxHeat) }

// isVessel reports whether a number is a vessel of a system.
func isVessel(v api.Vacuum, n int) bool { return within(n, 0, len(v.Vessels)-1) }

// checkCounts returns the first error of how many parts a system has, otherwise OK.
func checkCounts(v api.Vacuum) api.Errno {
	if len(v.Vessels) == 0 {
		return api.ErrShort
	}
	if len(v.Vessels) > api.MaxVessels || len(v.Pipes) > api.MaxPipes {
		return api.ErrFull
	}
	if max(len(v.Pumps), len(v.Leaks), len(v.Getters)) > api.MaxBanks {
		return api.ErrFull
	}
	return api.OK
}

// checkVessels returns the first error of the vessels of a system, otherwise OK.
func checkVessels(v api.Vacuum) api.Errno {
	for _, x := range v.Vessels {
		if !within(x.Volume, 1, api.MaxVolume) {
			return api.ErrRange
		}
		if e := checkRanges(api.MaxGas, x.Free, x.Bound); e != api.OK {
			return e
		}
		if e := checkBands(x.Bands); e != api.OK {
			return e
		}
	}
	return api.OK
}

// checkBands returns the first error of the bands of a vessel, otherwise OK.
func checkBands(l []api.Release) api.Errno {
	if len(l) > api.MaxBanks {
		return api.ErrFull
	}
	for i, b := range l {
		if !isHeat(b.From) {
			return api.ErrRange
		}
		if i > 0 && b.From <= l[i-1].From {
			return api.ErrOrder
		}
		if e := checkRanges(api.Million, b.Rate); e != api.OK {
			return e
		}
	}
	return api.OK
}

// checkPipes returns the first error of the pipes of a system, otherwise OK.
func checkPipes(v api.Vacuum) api.Errno {
	for _, p := range v.Pipes {
		if !isVessel(v, p.A) || !isVessel(v, p.B) {
			return api.ErrMissing
		}
		if p.A == p.B {
			return api.ErrExists
		}
		if e := checkRanges(api.Million, p.Out, p.Back); e != api.OK {
			return e
		}
	}
	return api.OK
}

// checkBanks returns the first error of the pumps, the leaks and the getters of a system, otherwise OK.
func checkBanks(v api.Vacuum) api.Errno {
	for _, p := range v.Pumps {
		if e := checkAt(v, p.At, p.Part, api.Million); e != api.OK {
			return e
		}
	}
	for _, l := range v.Leaks {
		if e := checkAt(v, l.At, l.Gas, api.MaxLeak); e != api.OK {
			return e
		}
	}
	for _, g := range v.Getters {
		if e := checkAt(v, g.At, g.Part, api.Million); e != api.OK {
			return e
		}
		if e := checkRanges(api.MaxGas, g.Room); e != api.OK {
			return e
		}
	}
	return api.OK
}

// checkAt returns the first error of what stands at a vessel of a system, with a range of numbers from 0 to most, otherwise OK.
func checkAt(v api.Vacuum, at int, r api.Range, most int) api.Errno {
	if !isVessel(v, at) {
		return api.ErrMissing
	}
	return checkRanges(most, r)
}

// checkOut returns ErrOver if more than all of a vessel's gas could go out of it, otherwise OK.
func checkOut(v api.Vacuum) api.Errno {
	out := goingOut(v, nil)
	for n := range v.Vessels {
		if out[n].Hi > api.Million {
			return api.ErrOver
		}
	}
	return api.OK
}

// outside is where pumps lead to.
const outside = -1

// flow says which part of the free gas of a vessel goes to another one, or outside, in a tick.
type flow struct {
	from, to int
	part     api.Range
}

// flows yields the flows of a system some pipes of which are shut.
func flows(v api.Vacuum, shut []int) iter.Seq[flow] {
	return func(yield func(f flow) bool) {
		for n, p := range v.Pipes {
			if slices.Contains(shut, n) {
				continue
			}
			if !yield(flow{p.A, p.B, p.Out}) || !yield(flow{p.B, p.A, p.Back}) {
				return
			}
		}
		for _, p := range v.Pumps {
			if !yield(flow{p.At, outside, p.Part}) {
				return
			}
		}
	}
}

// goingOut returns, for each vessel of a system some pipes of which are shut, the sum of the parts that go out of it.
func goingOut(v api.Vacuum, shut []int) map[int]api.Range {
	sums := map[int]api.Range{}
	for f := range flows(v, shut) {
		sums[f.from] = plus(sums[f.from], f.part)
	}
	return sums
}

// plus returns the bounds of two numbers together.
func plus(a, b api.Range) api.Range { return api.Range{Lo: a.Lo + b.Lo, Hi: a.Hi + b.Hi} }
