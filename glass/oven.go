package glass

import (
	"iter"

	"thermion/api"
)

// CheckOven returns the first error of a programme, otherwise OK.
func CheckOven(o api.Oven) api.Errno {
	if !isHeat(o.From) {
		return api.ErrRange
	}
	if len(o.Legs) > api.MaxLegs {
		return api.ErrFull
	}
	for _, l := range o.Legs {
		if !within(l.Ticks, 1, api.MaxTicks) || !isHeat(l.Heat) {
			return api.ErrRange
		}
	}
	return api.OK
}

// ticksOf returns how many ticks a programme has in all.
func ticksOf(o api.Oven) int {
	sum := 0
	for _, l := range o.Legs {
		sum += l.Ticks
	}
	return sum
}

// tick is a tick of a programme: the number of its leg (from 0 on), and the heats before and after it.
type tick struct{ leg, from, to int }

// ticks yields the ticks of a programme.
func ticks(o api.Oven) iter.Seq[tick] {
	return func(yield func(t tick) bool) {
		begin := o.From
		for n, l := range o.Legs {
			t := tick{leg: n, to: begin}
			for i := range l.Ticks {
				t.from, t.to = t.to, begin+divideDown((l.Heat-begin)*(i+1), l.Ticks)
				if !yield(t) {
					return
				}
			}
			begin = l.Heat
		}
	}
}

// divideDown returns a by b, rounded down; b is above 0.
func divideDown(a, b int) int {
	if a%b < 0 { // then a / b was rounded up
		return a/b - 1
	}
	return a / b
}
