// Package mount is layer 4: chains of tolerances, wound grids, kits whose parts go in by interlocks, and mounts that are drawn as plans. See shared/doc/04-mount.md.
package mount

import "thermion/api"

// CheckChain returns the first error of a chain, otherwise OK.
func CheckChain(c api.Chain) api.Errno {
	if !within(c.Points, 1, api.MaxPoints) {
		return api.ErrRange
	}
	if len(c.Links) > api.MaxLinks {
		return api.ErrFull
	}
	for _, l := range c.Links {
		if e := checkLink(c, l); e != api.OK {
			return e
		}
	}
	if loose(c) {
		return api.ErrLoose
	}
	return api.OK
}

// checkLink returns the first error of a link between points of a chain, otherwise OK.
func checkLink(c api.Chain, l api.Link) api.Errno {
	if !isPoint(c, l.From) || !isPoint(c, l.To) {
		return api.ErrMissing
	}
	if l.From == l.To {
		return api.ErrExists
	}
	return checkRange(l.Gap, -api.MaxLength, api.MaxLength)
}

// isPoint reports whether a number is a point of a chain.
func isPoint(c api.Chain, n int) bool { return within(n, 0, c.Points-1) }

// checkRange returns the first error of a range whose numbers have to lie between two others, otherwise OK.
func checkRange(r api.Range, least, most int) api.Errno {
	if r.Lo > r.Hi {
		return api.ErrOrder
	}
	if r.Lo < least || r.Hi > most {
		return api.ErrRange
	}
	return api.OK
}

// loose reports whether there is a point to which links lead no way from point 0.
func loose(c api.Chain) bool {
	var reached [api.MaxPoints]bool
	reached[0] = true
	for range c.Points { // each time at least one point is reached, if there is one that can be
		for _, l := range c.Links {
			if reached[l.From] || reached[l.To] {
				reached[l.From], reached[l.To] = true, true
			}
		}
	}
	for p := range c.Points {
		if !reached[p] {
			return true
		}
	}
	return false
}

// Fits reports whether a chain is valid, and positions fit it.
func Fits(c api.Chain, at []int) bool {
	if CheckChain(c) != api.OK || len(at) != c.Points {
		return false
	}
	for _, l := range c.Links {
		if !keeps(l, at[l.From], at[l.To]) {
			return false
		}
	}
	return true
}

// keeps reports whether a link's demand is done by the positions of its ends.
func keeps(l api.Link, from, to int) bool {
	gap := to - from
	if (gap < 0) != (to < from) { // the true difference is greater than an int can hold, and so than each gap
		return false
	}
	return within(gap, l.Gap.Lo, l.Gap.Hi)
}

// within reports whether a number is from least to most.
func within(n, least, most int) bool { return least <= n && n <= most }
