// Package cathode follows the coat of a cathode through schedules of heat and current: how much carbonate, oxide and barium there may be, what gas comes, how it wears, how long it lives; and it finds the shortest schedule that surely does what is demanded. It is layer 3: see shared/doc/03-cathode.md.
package cathode

import (
	"slices"

	"thermion/api"
)

// Check returns the first error of a coat, otherwise OK.
func Check(c api.Coat) api.Errno {
	if !within(c.Amount, 1, api.MaxAmount) || !within(c.Slew, 1, api.MaxHeat) {
		return api.ErrRange
	}
	if e := checkRanges(api.Million, c.Aid, c.Yield); e != api.OK {
		return e
	}
	if len(c.Bands) == 0 {
		return api.ErrShort
	}
	if len(c.Bands) > api.MaxBands {
		return api.ErrFull
	}
	for i, b := range c.Bands {
		if !within(b.From, 0, api.MaxHeat) {
			return api.ErrRange
		}
		if i == 0 && b.From != 0 || i > 0 && b.From <= c.Bands[i-1].From {
			return api.ErrOrder
		}
		if e := checkRanges(api.Million, b.Convert, b.Reduce, b.Evaporate, b.Sinter); e != api.OK {
			return e
		}
	}
	return api.OK
}

// CheckCoating returns the first error of a coat and of its coating, otherwise OK.
func CheckCoating(c api.Coat, x api.Coating) api.Errno {
	if e := Check(c); e != api.OK {
		return e
	}
	if e := checkRanges(c.Amount, x.Carbonate, x.Oxide, x.Barium, x.Lost, x.Gas); e != api.OK {
		return e
	}
	if e := checkRanges(api.MaxWear, x.Wear); e != api.OK {
		return e
	}
	if !within(x.Heat, 0, api.MaxHeat) {
		return api.ErrRange
	}
	return api.OK
}

// checkRanges returns the first error of ranges of numbers from 0 to most, otherwise OK.
func checkRanges(most int, ranges ...api.Range) api.Errno {
	for _, r := range ranges {
		if !within(r.Lo, 0, most) || !within(r.Hi, 0, most) {
			return api.ErrRange
		}
		if r.Lo > r.Hi {
			return api.ErrOrder
		}
	}
	return api.OK
}

// within reports whether n is a number from least to most.
func within(n, least, most int) bool { return least <= n && n <= most }

// Same reports whether two coats are equal in everything.
func Same(a, b api.Coat) bool {
	return a.Amount == b.Amount && a.Slew == b.Slew && a.Aid == b.Aid && a.Yield == b.Yield && slices.Equal(a.Bands, b.Bands)
}

// Copy returns an equal coat that shares no memory with c.
func Copy(c api.Coat) api.Coat {
	c.Bands = slices.Clone(c.Bands)
	return c
}
