package glass

import (
	"iter"
	"slices"

	"thermion/api"
)

// maxPace is the greatest number of ticks of a leg of a cooling.
const maxPace = 200

// cooling is a wall that is cooled from a heat: over stops, with paces, and with what may be left.
type cooling struct {
	wall
	from         int
	stops, paces []int
	left         int
}

// check returns the first error of a cooling, otherwise OK.
func (c cooling) check() api.Errno {
	if e := c.wall.check(); e != api.OK {
		return e
	}
	if !isHeat(c.from) {
		return api.ErrRange
	}
	if e := checkList(c.stops, api.MaxStops, 0, api.MaxHeat); e != api.OK {
		return e
	}
	if e := checkList(c.paces, api.MaxPaces, 1, maxPace); e != api.OK {
		return e
	}
	if !isStrain(c.left) {
		return api.ErrRange
	}
	return api.OK
}

// checkList returns the first error of a list of at most count numbers, which are from least to most, otherwise OK.
func checkList(l []int, count, least, most int) api.Errno {
	if len(l) == 0 {
		return api.ErrShort
	}
	if len(l) > count {
		return api.ErrFull
	}
	for _, n := range l {
		if !within(n, least, most) {
			return api.ErrRange
		}
	}
	return api.OK
}

// oven returns the programme with a list of numbers of paces.
func (c cooling) oven(list []int) api.Oven {
	o := api.Oven{From: c.from}
	for i, n := range list {
		o.Legs = append(o.Legs, api.Leg{Ticks: c.paces[n], Heat: c.stops[i]})
	}
	return o
}

// lists yields all lists of count numbers from 0 on that are less than below, in lexicographic order. A list that is yielded holds until the next one.
func lists(count, below int) iter.Seq[[]int] {
	return func(yield func(list []int) bool) {
		list := make([]int, count)
		for yield(list) {
			i := count - 1
			for i >= 0 && list[i] == below-1 { // the last number that can be greater becomes it, those behind it begin anew
				list[i] = 0
				i--
			}
			if i < 0 {
				return
			}
			list[i]++
		}
	}
}

// Fastest returns the numbers of the paces of the fastest cooling of a wall, and its ticks in all.
func Fastest(s api.Stuff, thick, from int, stops, paces []int, left int) (list []int, ticks int, e api.Errno) {
	c := cooling{wall{s, thick}, from, stops, paces, left}
	if e := c.check(); e != api.OK {
		return nil, 0, e
	}
	for l := range lists(len(stops), len(paces)) {
		o := c.oven(l)
		n := ticksOf(o)
		if list != nil && n >= ticks { // of several as fast the first one counts
			continue
		}
		if said, _ := judge(c.limited(o, left)); said == api.Sure {
			list, ticks = slices.Clone(l), n
		}
	}
	if list == nil {
		return nil, 0, api.ErrMissing
	}
	return list, ticks, api.OK
}
