// Package glass says how stuffs grow with heat, whether two of them that are sealed together stand it, what strain a furnace's programme leaves in a wall, in which order fires can join parts, and how fast a wall can be cooled. It is layer 5: see shared/doc/05-glass.md.
package glass

import (
	"iter"
	"slices"

	"thermion/api"
)

// Check returns the first error of a stuff, otherwise OK.
func Check(s api.Stuff) api.Errno {
	if !within(s.Break, 1, api.MaxBreak) {
		return api.ErrRange
	}
	if len(s.Zones) == 0 {
		return api.ErrShort
	}
	if len(s.Zones) > api.MaxBands {
		return api.ErrFull
	}
	for i, z := range s.Zones {
		if !isHeat(z.From) {
			return api.ErrRange
		}
		if i == 0 && z.From != 0 || i > 0 && z.From <= s.Zones[i-1].From {
			return api.ErrOrder
		}
		if e := checkRange(z.Grow, api.MaxGrow); e != api.OK {
			return e
		}
		if e := checkRange(z.Relax, api.Million); e != api.OK {
			return e
		}
	}
	return api.OK
}

// checkRange returns the first error of a range of numbers from 0 to most, otherwise OK.
func checkRange(r api.Range, most int) api.Errno {
	if !within(r.Lo, 0, most) || !within(r.Hi, 0, most) {
		return api.ErrRange
	}
	if r.Lo > r.Hi {
		return api.ErrOrder
	}
	return api.OK
}

// within reports whether n is a number from least to most.
func within(n, least, most int) bool { return least <= n && n <= most }

// isHeat reports whether a number is a heat.
func isHeat(n int) bool { return within(n, 0, api.MaxHeat) }

// zonesDown goes through the zones of a stuff from hot to cold, and yields each heat below above that is at least least, with its zone.
func zonesDown(s api.Stuff, above, least int) iter.Seq2[int, api.Zone] {
	return func(yield func(heat int, z api.Zone) bool) {
		t := above - 1
		for _, z := range slices.Backward(s.Zones) {
			for ; t >= max(z.From, least); t-- {
				if !yield(t, z) {
					return
				}
			}
		}
	}
}

// zoneOf returns the zone of a heat.
func zoneOf(s api.Stuff, heat int) api.Zone {
	var found api.Zone
	for _, z := range zonesDown(s, heat+1, heat) { // one heat alone
		found = z
	}
	return found
}

// Growth returns the growth of a stuff from one heat to another one.
func Growth(s api.Stuff, from, to int) (api.Range, api.Errno) {
	if e := Check(s); e != api.OK {
		return api.Range{}, e
	}
	if !isHeat(from) || !isHeat(to) {
		return api.Range{}, api.ErrRange
	}
	return growth(s, from, to), api.OK
}

// growth is Growth for arguments that are valid.
func growth(s api.Stuff, from, to int) api.Range {
	if to < from {
		return less(api.Range{}, growth(s, to, from))
	}
	var sum api.Range
	for _, z := range zonesDown(s, to, from) {
		sum = plus(sum, z.Grow)
	}
	return sum
}

// plus returns the bounds of two numbers together.
func plus(a, b api.Range) api.Range { return api.Range{Lo: a.Lo + b.Lo, Hi: a.Hi + b.Hi} }

// less returns the bounds of a number less another one.
func less(a, b api.Range) api.Range { return api.Range{Lo: a.Lo - b.Hi, Hi: a.Hi - b.Lo} }
