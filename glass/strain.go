package glass

import (
	"iter"

	"thermion/api"
)

// wall is a wall of a stuff, of a thickness.
type wall struct {
	stuff api.Stuff
	thick int
}

// check returns the first error of a wall, otherwise OK.
func (w wall) check() api.Errno {
	if e := Check(w.stuff); e != api.OK {
		return e
	}
	if !within(w.thick, 1, api.MaxThick) {
		return api.ErrRange
	}
	return api.OK
}

// added returns the bounds of the strain that a tick adds, in a zone.
func (w wall) added(t tick, z api.Zone) api.Range {
	pull := max(t.from-t.to, t.to-t.from) * w.thick
	return api.Range{Lo: pull * z.Grow.Lo / 100, Hi: (pull*z.Grow.Hi + 99) / 100}
}

// strains yields the bounds of the strain after each tick of a programme, with the number of its leg.
func (w wall) strains(o api.Oven) iter.Seq2[int, api.Range] {
	return func(yield func(leg int, r api.Range) bool) {
		var r api.Range
		for t := range ticks(o) {
			z := zoneOf(w.stuff, t.to)
			r = capped(plus(relaxed(r, z), w.added(t, z)))
			if !yield(t.leg, r) {
				return
			}
		}
	}
}

// capped returns the bounds of a strain, in truth none of which is above MaxStrain.
func capped(r api.Range) api.Range {
	return api.Range{Lo: min(r.Lo, api.MaxStrain), Hi: min(r.Hi, api.MaxStrain)}
}

// relaxed returns the bounds of what is left of a strain after a tick in a zone.
func relaxed(r api.Range, z api.Zone) api.Range {
	return api.Range{Lo: leastLeft(r.Lo, z), Hi: mostLeft(r.Hi, z)}
}

// leastLeft returns what is left of a strain if as much of it relaxes as can.
func leastLeft(x int, z api.Zone) int { return x - (x*z.Relax.Hi+api.Million-1)/api.Million }

// mostLeft returns what is left of a strain if as little of it relaxes as can.
func mostLeft(x int, z api.Zone) int { return x - x*z.Relax.Lo/api.Million }

// Strain returns the bounds of the strain in a wall after each leg of a programme.
func Strain(s api.Stuff, thick int, o api.Oven) ([]api.Range, api.Errno) {
	w := wall{s, thick}
	if e := checkHeated(w, o); e != api.OK {
		return nil, e
	}
	after := make([]api.Range, len(o.Legs))
	for leg, r := range w.strains(o) {
		after[leg] = r // that of the leg's last tick stays
	}
	return after, api.OK
}

// checkHeated returns the first error of a wall and of a programme, otherwise OK.
func checkHeated(w wall, o api.Oven) api.Errno {
	if e := w.check(); e != api.OK {
		return e
	}
	return CheckOven(o)
}

// isStrain reports whether a number is a strain.
func isStrain(n int) bool { return within(n, 0, api.MaxStrain) }

// strained is the strain after a tick, and the greatest one that may be.
type strained struct {
	api.Range
	most int
}

func (s strained) surelyHolds() bool  { return s.Hi <= s.most }
func (s strained) surelyBreaks() bool { return s.Lo > s.most }

// limited yields the strain after each tick of a programme, numbered from 1 on, with what it may be; after the last one that is also what may be left. (Without ticks there is no strain, which is never too much.)
func (w wall) limited(o api.Oven, left int) iter.Seq2[int, strained] {
	return func(yield func(n int, s strained) bool) {
		n, last := 0, ticksOf(o)
		for _, r := range w.strains(o) {
			n++
			s := strained{r, w.stuff.Break}
			if n == last {
				s.most = min(s.most, left)
			}
			if !yield(n, s) {
				return
			}
		}
	}
}

// Judge returns the verdict on a programme for a wall, with what may be left, and its tick.
func Judge(s api.Stuff, thick int, o api.Oven, left int) (verdict, tick int, e api.Errno) {
	w := wall{s, thick}
	if e := checkHeated(w, o); e != api.OK {
		return 0, 0, e
	}
	if !isStrain(left) {
		return 0, 0, api.ErrRange
	}
	verdict, tick = judge(w.limited(o, left))
	return verdict, tick, api.OK
}

// Soak returns the ticks that bring a strain down to a limit at a heat.
func Soak(s api.Stuff, strain api.Range, heat, limit int) (api.Range, api.Errno) {
	if e := Check(s); e != api.OK {
		return api.Range{}, e
	}
	if e := checkRange(strain, api.MaxStrain); e != api.OK {
		return api.Range{}, e
	}
	if !isHeat(heat) || !isStrain(limit) {
		return api.Range{}, api.ErrRange
	}
	z := zoneOf(s, heat)
	return api.Range{Lo: soaked(strain.Lo, limit, z, leastLeft), Hi: soaked(strain.Hi, limit, z, mostLeft)}, api.OK
}

// soaked returns after how many ticks in a zone, of each of which something is left, a strain is at most limit; MaxSoak + 1 if that takes more than MaxSoak.
func soaked(x, limit int, z api.Zone, left func(x int, z api.Zone) int) int {
	n := 0
	for ; x > limit && n <= api.MaxSoak; n++ {
		x = left(x, z)
	}
	return n
}
